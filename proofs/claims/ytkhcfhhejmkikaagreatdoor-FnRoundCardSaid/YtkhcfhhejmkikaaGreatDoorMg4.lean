/-
  Expressions in memory: a slice of Kids that reads as a list. Nothing of a program stands here.
-/
import Derived.Test.YtkhcfhhejmkikaaGreatDoorMg1
import Derived.Test.YtkhcfhhejmkikaaGreatDoorMg2
import Derived.Test.YtkhcfhhejmkikaaGreatDoorMg3
import Derived.Test.YtkhcfhhejmkikaaGreatDoorChecked
import Derived.WalkKit
import Derived.LoopTactic
import Derived.Lib.Hide
import Derived.Outline
import Derived.BigQuiet
import Derived.Deep.QuietTactic
import Derived.WalkSpells
import Derived.WalkLawsBesides
import Derived.Handy
import Derived.Deep.RegionHeld3
import Derived.LaidLaws
import Derived.Below
import Derived.Laws.AppendOwn
namespace Go.Proofs.YtkhcfhhejmkikaaGreatDoor
open Go.RowKit
set_option maxRecDepth 100000

theorem bcell {W w1 : World} (hb : Below W.heap.size W w1) : ∀ b o, b < W.heap.size → w1.cell? ⟨b, o, none⟩ = W.cell? ⟨b, o, none⟩ :=
  fun b o h => hb.cell (p := ⟨b, o, none⟩) h
theorem alloc_cell (w : World) (cs : Array Value) (t : TypeId) (fr : Nat × Nat) (k : Nat) : (w.alloc (.cells cs t fr)).cell? ⟨w.heap.size, k, none⟩ = cs[k]? := by
  have hb : (w.alloc (.cells cs t fr)).heap[w.heap.size]? = some (.cells cs t fr) := by
    show (w.heap.push (.cells cs t fr))[w.heap.size]? = _
    simp
  unfold World.cell?
  rw [hb]
  rfl
theorem alloc_frozen (w : World) (cs : Array Value) (t : TypeId) (k : Nat) : (w.alloc (.cells cs t (0, 0))).frozen? ⟨w.heap.size, k, none⟩ = false :=
  frozen_of_row _ _ k cs t (by show (w.heap.push (.cells cs t (0, 0)))[w.heap.size]? = _; simp)
/-- What szWord returns. -/
def szW (s : ByteArray) (left : Int) : Int := if left - s.size < 0 then -1 else left - s.size



/-- A slice of words that reads as a list; below block B. -/
def Words (w : World) (B : Nat) (A : Option Addr) (ws : List (Int × ByteArray)) : Prop :=
  ws ≠ [] → ∃ b o, A = some ⟨b, o, none⟩ ∧ b < B ∧ ∀ k, (h : k < ws.length) → w.cell? ⟨b, o + k * 2, none⟩ = some (.int .i64 ws[k].1) ∧ w.cell? ⟨b, o + k * 2 + 1, none⟩ = some (.string ws[k].2)
theorem Words.at_ {w : World} {B : Nat} {A : Option Addr} {ws : List (Int × ByteArray)} (h : Words w B A ws) {k : Nat} (hk : k < ws.length) :
    ∃ b o, A = some ⟨b, o, none⟩ ∧ b < B ∧ w.cell? ⟨b, o + k * 2, none⟩ = some (.int .i64 ws[k].1) ∧ w.cell? ⟨b, o + k * 2 + 1, none⟩ = some (.string ws[k].2) := by
  obtain ⟨b, o, e, hb, hc⟩ := h (by intro e; subst e; simp at hk)
  exact ⟨b, o, e, hb, (hc k hk).1, (hc k hk).2⟩
theorem Words.below {w w' : World} {B : Nat} {A : Option Addr} {ws : List (Int × ByteArray)} (h : Words w B A ws) (hb : Below B w w') : Words w' B A ws := by
  intro hne
  obtain ⟨b, o, e, hB, hc⟩ := h hne
  exact ⟨b, o, e, hB, fun k hk => ⟨(hb.cell (p := ⟨b, _, none⟩) hB).trans (hc k hk).1, (hb.cell (p := ⟨b, _, none⟩) hB).trans (hc k hk).2⟩⟩
theorem Words.more {w : World} {B B' : Nat} {A : Option Addr} {ws : List (Int × ByteArray)} (h : Words w B A ws) (hB : B ≤ B') : Words w B' A ws := by
  intro hne
  obtain ⟨b, o, e, hb, hc⟩ := h hne
  exact ⟨b, o, e, by omega, hc⟩
/-- What szWordS comes to behind k words. -/
def szTo (ws : List (Int × ByteArray)) (left : Int) : Nat → Int
  | 0 => left
  | k + 1 => szTo ws left k - (ws.getD k (0, ByteArray.empty)).2.size
theorem szTo_le (ws : List (Int × ByteArray)) (left : Int) (k : Nat) : szTo ws left k ≤ left := by
  induction k with
  | zero => exact Int.le_refl _
  | succ k ih => unfold szTo; omega


/-- The cells of words. -/
def wordCells : List (Int × ByteArray) → List Value
  | [] => []
  | x :: l => .int .i64 x.1 :: .string x.2 :: wordCells l
theorem wordCells_length (l : List (Int × ByteArray)) : (wordCells l).length = l.length * 2 := by
  induction l with
  | nil => rfl
  | cons x l ih => simp only [wordCells, List.length_cons, ih]; omega
theorem wordCells_at : ∀ (l : List (Int × ByteArray)) (k : Nat) (h : k < l.length), (wordCells l)[k * 2]? = some (.int .i64 l[k].1) ∧ (wordCells l)[k * 2 + 1]? = some (.string l[k].2)
  | [], k, h => absurd h (by simp)
  | x :: l, 0, _ => ⟨rfl, rfl⟩
  | x :: l, k + 1, h => by
    have ih := wordCells_at l k (by simpa using h)
    have e1 : (k + 1) * 2 = k * 2 + 1 + 1 := by omega
    have e2 : (k + 1) * 2 + 1 = k * 2 + 1 + 1 + 1 := by omega
    refine ⟨?_, ?_⟩
    · rw [e1]; simpa [wordCells] using ih.1
    · rw [e2]; simpa [wordCells] using ih.2
theorem Words.of_own {w : World} {base : Nat} {e : TypeId} {g cap : Nat} {ws : List (Int × ByteArray)} (h : w.ownsRow base e 2 (.slice (some ⟨g, 0, none⟩) ws.length cap) ws.length (wordCells ws)) : Words w w.heap.size (some ⟨g, 0, none⟩) ws := by
  intro hne
  refine ⟨g, 0, rfl, (h.lt g rfl).2, fun k hk => ?_⟩
  have c := wordCells_at ws k hk
  exact ⟨by rw [Nat.zero_add, h.cellAt _ (by omega), c.1], by rw [Nat.zero_add, h.cellAt _ (by omega), c.2]⟩
/-- The cells behind k rounds: k words are there. -/
def partCells (ws : List (Int × ByteArray)) (k : Nat) (xs : List Value) : Prop := xs.length = ws.length * 2 ∧ ∀ j, j < k * 2 → xs[j]? = (wordCells ws)[j]?
theorem partCells_succ {ws : List (Int × ByteArray)} {k : Nat} {xs : List Value} (h : partCells ws k xs) (hk : k < ws.length) : partCells ws (k + 1) ((xs.set (k * 2) (.int .i64 ws[k].1)).set (k * 2 + 1) (.string ws[k].2)) := by
  refine ⟨by simpa using h.1, fun j hj => ?_⟩
  have hl := h.1
  have c := wordCells_at ws k hk
  rw [List.getElem?_set, List.getElem?_set]
  by_cases e1 : k * 2 + 1 = j
  · subst e1; rw [if_pos rfl, if_pos (by simp; omega)]; exact c.2.symm
  · rw [if_neg e1]
    by_cases e2 : k * 2 = j
    · subst e2; rw [if_pos rfl, if_pos (by omega)]; exact c.1.symm
    · rw [if_neg e2]; exact h.2 j (by omega)
theorem partCells_end {ws : List (Int × ByteArray)} {xs : List Value} (h : partCells ws ws.length xs) : xs = wordCells ws := by
  apply List.ext_getElem?
  intro j
  by_cases hj : j < ws.length * 2
  · exact h.2 j hj
  · rw [List.getElem?_eq_none (by have := h.1; omega), List.getElem?_eq_none (by rw [wordCells_length]; omega)]
theorem wordInfo : (Tryz.prog.info? 76).map (fun i => (i.zero, i.size, i.bytes)) = some (some (.agg #[.int .i64 0, .string ⟨#[]⟩]), 2, 24) := by kernel_rfl

end Go.Proofs.YtkhcfhhejmkikaaGreatDoor

namespace Go.Proofs.YtkhcfhhejmkikaaGreatDoor
open Go.RowKit
set_option maxRecDepth 100000

theorem validB_two (s : ByteArray) : decide (0 ≤ numB s.data.toList) = ((l30F s).2 && decide (0 ≤ (l30F s).1 ∧ (l30F s).1 ≤ 255)) := by
  rw [numB_l30F]
  generalize l30F s = p
  obtain ⟨z, ok⟩ := p
  cases ok
  · simp
  · by_cases h : 0 ≤ z ∧ z ≤ 255
    · simp [h]
    · simp only [true_and]
      rw [if_neg h]
      simp [h]

set_option maxHeartbeats 1000000 in
theorem specWordValid_any (n : Int) (s : ByteArray) (w : World) (hs : s.size ≤ 1048576) :
    Calls Tryz.prog 58 #[.agg #[.int .i64 n, .string s]] w (BoolBelow (validB n s) w) := by
  have hb0 : Below w.heap.size w (w.alloc (.cells #[.int .i64 n, .string s] 76)) := (Below.refl _ _).alloc (Nat.le_refl _) _
  have hs' : s.size ≤ maxLen := by unfold maxLen; omega
  unfold validB
  by_cases h1 : n = 1
  · subst h1
    rw [if_pos rfl]
    have C := Lib.hid (specIsName_any s (w.alloc (.cells #[.int .i64 1, .string s] 76)) hs')
    generalize nameB s = b at *
    go_enter Tryz.func58, Tryz.ntmps58
    go_wp2_with fail
    refine C.out.mono ?_
    rintro e w' ⟨rfl, hb⟩
    have hb2 := hb0.trans (hb.mono hb0.size)
    clear hb hb0
    go_wp2
    go_ret
    exact ⟨rfl, hb2⟩
  by_cases h2 : n = 2
  · subst h2
    rw [if_neg (by omega), if_pos rfl, validB_two]
    have C := Lib.hid (l30Num_any s (w.alloc (.cells #[.int .i64 2, .string s] 76)) hs')
    generalize l30F s = p at *
    obtain ⟨z, ok⟩ := p
    cases ok
    · go_enter Tryz.func58, Tryz.ntmps58
      go_wp2_with fail
      refine C.out.mono ?_
      rintro e w' ⟨rfl, rfl⟩
      go_wp2
      go_ret
      exact ⟨rfl, hb0⟩
    · have CI := fun w => Lib.hid (l1In_any z 0 255 w)
      show Calls _ _ _ _ (BoolBelow (decide (0 ≤ z ∧ z ≤ 255)) w)
      generalize decide (0 ≤ z ∧ z ≤ 255) = d at *
      go_enter Tryz.func58, Tryz.ntmps58
      go_wp2_with fail
      refine C.out.mono ?_
      rintro e w' ⟨rfl, rfl⟩
      go_wp2_with fail
      refine (CI _).out.mono ?_
      rintro e w' ⟨rfl, rfl⟩
      go_wp2
      go_ret
      exact ⟨rfl, hb0⟩
  by_cases h3 : n = 3
  · subst h3
    rw [if_neg (by omega), if_neg (by omega), if_pos rfl]
    by_cases hz : s.size = 1
    · have e1 : ((s.size : Int) == 1) = true := by rw [beq_iff_eq]; omega
      have hpos : 0 < s.size := by omega
      have hb : signB s = (cls (s[0]'hpos).toNat == 3) := by unfold signB; rw [dif_pos hz]
      rw [hb]
      clear hb hz
      have C := fun w => Lib.hid (l1Class_any s[0] w)
      generalize cls s[0].toNat = z at *
      go_enter Tryz.func58, Tryz.ntmps58
      go_wp2_with fail
      refine (C _).out.mono ?_
      rintro e w' ⟨rfl, rfl⟩
      go_wp2
      go_ret
      exact ⟨rfl, hb0⟩
    · have e1 : ((s.size : Int) == 1) = false := by rw [beq_eq_false_iff_ne]; omega
      have hb : signB s = false := by unfold signB; rw [dif_neg hz]
      rw [hb]
      clear hb hz
      go_enter Tryz.func58, Tryz.ntmps58
      go_wp2
      go_ret
      exact ⟨rfl, hb0⟩
  by_cases h4 : n = 4
  · subst h4
    rw [if_neg (by omega), if_neg (by omega), if_neg (by omega), if_pos rfl]
    have C := Lib.hid (l1Key_any s (w.alloc (.cells #[.int .i64 4, .string s] 76)))
    generalize isKeyB s = b at *
    go_enter Tryz.func58, Tryz.ntmps58
    go_wp2_with fail
    refine C.out.mono ?_
    rintro e w' ⟨rfl, hb⟩
    have hb2 := hb0.trans (hb.mono hb0.size)
    clear hb hb0
    go_wp2
    go_ret
    exact ⟨rfl, hb2⟩
  · rw [if_neg h1, if_neg h2, if_neg h3, if_neg h4]
    have b1 : (n == 1) = false := by rw [beq_eq_false_iff_ne]; exact h1
    have b2 : (n == 2) = false := by rw [beq_eq_false_iff_ne]; exact h2
    have b3 : (n == 3) = false := by rw [beq_eq_false_iff_ne]; exact h3
    have b4 : (n == 4) = false := by rw [beq_eq_false_iff_ne]; exact h4
    clear h1 h2 h3 h4
    go_enter Tryz.func58, Tryz.ntmps58
    go_wp2
    go_ret
    exact ⟨rfl, hb0⟩

/-- The number that a word tells. -/
def numOfB (n : Int) (s : ByteArray) : Int := if n = 2 then numB s.data.toList else -1

set_option maxHeartbeats 1000000 in
theorem implNumberOf_any (n : Int) (s : ByteArray) (w : World) (hs : s.size ≤ 1048576) (N : NTabs w) :
    Calls Tryz.prog 102 #[.agg #[.int .i64 n, .string s]] w (IntBelow (numOfB n s) w) := by
  have hb0 : Below w.heap.size w (w.alloc (.cells #[.int .i64 n, .string s] 76)) := (Below.refl _ _).alloc (Nat.le_refl _) _
  have N1 := N.below hb0
  unfold numOfB
  by_cases h2 : n = 2
  · subst h2
    rw [if_pos rfl]
    have C := Lib.hid (numberIn_any s _ hs N1)
    generalize numB s.data.toList = z at *
    go_enter Tryz.func102, Tryz.ntmps102
    go_wp2_with fail
    refine C.out.mono ?_
    rintro e w' ⟨rfl, hb⟩
    have hb2 := hb0.trans (hb.mono hb0.size)
    clear hb hb0
    go_wp2
    go_ret
    exact ⟨rfl, hb2⟩
  · rw [if_neg h2]
    have b2 : (n == 2) = false := by rw [beq_eq_false_iff_ne]; exact h2
    have b3 : (n != 2) = true := by rw [bne, b2]; rfl
    clear h2
    go_enter Tryz.func102, Tryz.ntmps102
    go_wp2
    go_ret
    exact ⟨rfl, hb0⟩

theorem numOf_yes {s : ByteArray} (h : 0 ≤ numB s.data.toList) : numB s.data.toList = (l30F s).1 := by
  rw [numB_l30F] at h ⊢
  split
  · rfl
  · rename_i hn; rw [if_neg hn] at h; omega
set_option maxHeartbeats 1000000 in
theorem specNumberOf_any (n : Int) (s : ByteArray) (w : World) (hs : s.size ≤ 1048576) :
    Calls Tryz.prog 97 #[.agg #[.int .i64 n, .string s]] w (IntBelow (numOfB n s) w) := by
  have hb0 : Below w.heap.size w (w.alloc (.cells #[.int .i64 n, .string s] 76)) := (Below.refl _ _).alloc (Nat.le_refl _) _
  have hs' : s.size ≤ maxLen := by unfold maxLen; omega
  unfold numOfB
  by_cases h2 : n = 2
  · subst h2
    rw [if_pos rfl]
    have CV := Lib.hid (specWordValid_any 2 s (w.alloc (.cells #[.int .i64 2, .string s] 76)) hs)
    have hv : validB 2 s = decide (0 ≤ numB s.data.toList) := by unfold validB; rw [if_neg (by omega), if_pos rfl]
    have hr := numB_range s.data.toList
    by_cases h0 : 0 ≤ numB s.data.toList
    · rw [hv, decide_eq_true h0] at CV
      have CN := fun w => Lib.hid (l30Num_any s w hs')
      rw [numOf_yes h0]
      clear hv hr h0
      generalize l30F s = p at *
      go_enter Tryz.func97, Tryz.ntmps97
      go_wp2_with fail
      refine CV.out.mono ?_
      rintro e w' ⟨rfl, hb⟩
      have hcell : w'.cell? ⟨w.heap.size, 1, none⟩ = some (.string s) := by
        rw [hb.cell (p := ⟨w.heap.size, 1, none⟩) (by simp)]
        exact alloc_cell w _ _ _ 1
      have hb2 := hb0.trans (hb.mono hb0.size)
      clear hb hb0
      go_wp2_with fail
      refine (CN _).out.mono ?_
      rintro e w2 ⟨rfl, rfl⟩
      go_wp2
      go_ret
      exact ⟨rfl, hb2⟩
    · rw [hv, decide_eq_false h0] at CV
      have hm : numB s.data.toList = -1 := by omega
      rw [hm]
      clear hv hr h0 hm
      go_enter Tryz.func97, Tryz.ntmps97
      go_wp2_with fail
      refine CV.out.mono ?_
      rintro e w' ⟨rfl, hb⟩
      have hb2 := hb0.trans (hb.mono hb0.size)
      clear hb hb0
      go_wp2
      go_ret
      exact ⟨rfl, hb2⟩
  · rw [if_neg h2]
    have b2 : (n == 2) = false := by rw [beq_eq_false_iff_ne]; exact h2
    have b3 : (n != 2) = true := by rw [bne, b2]; rfl
    clear h2
    go_enter Tryz.func97, Tryz.ntmps97
    go_wp2
    go_ret
    exact ⟨rfl, hb0⟩


end Go.Proofs.YtkhcfhhejmkikaaGreatDoor

namespace Go.Proofs.YtkhcfhhejmkikaaGreatDoor
open Go.ChangeShapes Go.WideShapes Go.ChangeAt Go.RowKit Go.WideMaps
set_option maxRecDepth 100000

theorem pow10_data : (Rows.laid_internal_strconv_uint64pow10 : DataW Unit) = Lib.tabData .u64 Lib.pow10Tab := by kernel_rfl

theorem sentinel_cell {W : World} {l : List (String × DataW Unit)} {n nm : String} {d : DataW Unit} {g : Nat} (h : laidMet Tryz.prog l W) (hm : (n, .iface nm d) ∈ l)
    (hg : Tryz.prog.globalNamed n = some g) (ht : (Tryz.prog.globals[g]?).map (·.type) = some 137) : ∃ tp p, W.cell? ⟨g, 0, none⟩ = some (.iface tp p) := by
  obtain ⟨ps, hv, _, _⟩ := h
  obtain ⟨g1, t1, cs1, f1, p1, hg1, ht1, hv1, hd1⟩ := laid_get hv hm
  obtain rfl := Option.some.inj (hg.symm.trans hg1)
  obtain rfl := Option.some.inj (ht.symm.trans ht1)
  obtain ⟨f', u, v, hcs, _, _⟩ := iface_of_trod Tryz.underlying137 hd1
  refine ⟨u, v, ?_⟩
  rw [World.var?_cell hg1 hv1 0, ← Array.getElem?_toList, hcs]
  rfl

theorem ntabs_of_laid {W : World} {l : List (String × DataW Unit)} (h : laidMet Tryz.prog l W)
    (h1 : ("internal/strconv.uint64pow10", Rows.laid_internal_strconv_uint64pow10) ∈ l) (h2 : ("strconv.ErrRange", Rows.laid_strconv_ErrRange) ∈ l) (h3 : ("strconv.ErrSyntax", Rows.laid_strconv_ErrSyntax) ∈ l)
    (h4 : ("math/bits.deBruijn64tab", Rows.laid_math_bits_deBruijn64tab) ∈ l) : NTabs W := by
  have hs := sentinel_cell h h3 (show _ = some 5 by kernel_rfl) (by kernel_rfl)
  have hr := sentinel_cell h h2 (show _ = some 6 by kernel_rfl) (by kernel_rfl)
  obtain ⟨ps, hv, _, _⟩ := h
  obtain ⟨g1, t1, cs1, f1, p1, hg1, ht1, hv1, hd1⟩ := laid_get hv h1
  obtain ⟨g4, t4, cs4, f4, p4, hg4, ht4, hv4, hd4⟩ := laid_get hv h4
  obtain rfl := Option.some.inj ((show Tryz.prog.globalNamed "internal/strconv.uint64pow10" = some 4 by kernel_rfl).symm.trans hg1)
  obtain rfl := Option.some.inj ((show Tryz.prog.globalNamed "math/bits.deBruijn64tab" = some 8 by kernel_rfl).symm.trans hg4)
  obtain rfl := Option.some.inj ((show (Tryz.prog.globals[4]?).map (·.type) = some 169 by kernel_rfl).symm.trans ht1)
  rw [pow10_data] at hd1
  have e1 := Lib.cells_of_tab Tryz.underlying169 Tryz.underlying157 (by kernel_rfl) (by kernel_rfl) hd1
  have hsz : 8 < W.heap.size := by
    unfold World.var? at hv4
    simp only [hg4, Option.bind_some] at hv4
    by_cases hlt : 8 < W.heap.size
    · exact hlt
    · rw [Array.getElem?_eq_none (by omega)] at hv4; cases hv4
  refine ⟨hs, hr, ?_, by omega⟩
  unfold Lib.TabIs
  rw [hv1, ← e1]
end Go.Proofs.YtkhcfhhejmkikaaGreatDoor

namespace Go.Proofs.YtkhcfhhejmkikaaGreatDoor
open Go.RowKit

theorem beq_no {a b : Int} (h : a ≠ b) : (a == b) = false := by rw [beq_eq_false_iff_ne]; exact h
theorem beq_yes {a b : Int} (h : a = b) : (a == b) = true := by rw [beq_iff_eq]; exact h
/-- A flag, and new blocks at most. -/
def BoolB (b : Bool) (w : World) (e : Ending) (w' : World) : Prop := e = .returned (.bool b) ∧ Below w.heap.size w w'
theorem two_boxes (w : World) (a b : Obj) : Below w.heap.size w ((w.alloc a).alloc b) := ((Below.refl _ _).alloc (Nat.le_refl _) _).alloc (by simp) _

/-- Four cells of a block. -/
def Bx4 (w : World) (k : Nat) (v0 v1 v2 v3 : Value) : Prop := w.cell? ⟨k, 0, none⟩ = some v0 ∧ w.cell? ⟨k, 1, none⟩ = some v1 ∧ w.cell? ⟨k, 2, none⟩ = some v2 ∧ w.cell? ⟨k, 3, none⟩ = some v3
theorem Bx4.below {w w' : World} {B k : Nat} {v0 v1 v2 v3 : Value} (h : Bx4 w k v0 v1 v2 v3) (hb : Below B w w') (hk : k < B) : Bx4 w' k v0 v1 v2 v3 :=
  ⟨(hb.cell (p := ⟨k, _, none⟩) hk).trans h.1, (hb.cell (p := ⟨k, _, none⟩) hk).trans h.2.1, (hb.cell (p := ⟨k, _, none⟩) hk).trans h.2.2.1, (hb.cell (p := ⟨k, _, none⟩) hk).trans h.2.2.2⟩
theorem Bx4.new (w : World) (v0 v1 v2 v3 : Value) (t : TypeId) : Bx4 (w.alloc (.cells #[v0, v1, v2, v3] t)) w.heap.size v0 v1 v2 v3 := ⟨alloc_cell w _ _ _ 0, alloc_cell w _ _ _ 1, alloc_cell w _ _ _ 2, alloc_cell w _ _ _ 3⟩
/-- One block turns, and new blocks are there. -/
structure Touch (g : Nat) (w w' : World) : Prop where
  below : Below g w w'
  above : ∀ k, g < k → k < w.heap.size → w'.heap[k]? = w.heap[k]?
theorem Touch.trans {g : Nat} {a b c : World} (h : Touch g a b) (k : Touch g b c) : Touch g a c :=
  ⟨h.below.trans k.below, fun i h1 h2 => (k.above i h1 (Nat.lt_of_lt_of_le h2 h.below.size)).trans (h.above i h1 h2)⟩
theorem Touch.of_below {g : Nat} {a b : World} (h : Below a.heap.size a b) (hg : g < a.heap.size) : Touch g a b := ⟨h.mono (Nat.le_of_lt hg), fun i _ h2 => h.block i h2⟩
theorem Touch.cell {g : Nat} {a b : World} (h : Touch g a b) {k o : Nat} (h1 : g < k) (h2 : k < a.heap.size) : b.cell? ⟨k, o, none⟩ = a.cell? ⟨k, o, none⟩ := by
  have := h.above k h1 h2
  unfold World.cell?
  dsimp only
  rw [this]
theorem Touch.refl (g : Nat) (w : World) : Touch g w w := ⟨Below.refl _ _, fun _ _ _ => rfl⟩
end Go.Proofs.YtkhcfhhejmkikaaGreatDoor

namespace Go.Proofs.YtkhcfhhejmkikaaGreatDoor

/-- An expression. -/
inductive E where
  | mk (op n : Int) (name : ByteArray) (kids : List E)
def E.op : E → Int | .mk o _ _ _ => o
def E.n : E → Int | .mk _ n _ _ => n
def E.name : E → ByteArray | .mk _ _ s _ => s
def E.kids : E → List E | .mk _ _ _ ks => ks
theorem E.eta (e : E) : E.mk e.op e.n e.name e.kids = e := by cases e; rfl
theorem E.ext {a b : E} (h1 : a.op = b.op) (h2 : a.n = b.n) (h3 : a.name = b.name) (h4 : a.kids = b.kids) : a = b := by
  rw [← E.eta a, ← E.eta b, h1, h2, h3, h4]
instance : Inhabited E := ⟨.mk 0 0 ⟨#[]⟩ []⟩
/-- The expression that is nothing. -/
def E.none : E := .mk 0 0 ⟨#[]⟩ []
mutual
/-- How many parts an expression has. -/
def sizeE : E → Nat
  | .mk _ _ _ ks => 1 + sizeL ks
def sizeL : List E → Nat
  | [] => 0
  | k :: ks => sizeE k + sizeL ks
end
mutual
/-- How deep an expression is. -/
def deepE : E → Nat
  | .mk _ _ _ ks => deepL ks + 1
def deepL : List E → Nat
  | [] => 0
  | k :: ks => max (deepE k) (deepL ks)
end
theorem sizeE_kids (e : E) : sizeE e = 1 + sizeL e.kids := by cases e; rfl
theorem sizeE_pos (e : E) : 0 < sizeE e := by rw [sizeE_kids]; omega
theorem deepE_kids (e : E) : deepE e = deepL e.kids + 1 := by cases e; rfl
theorem sizeL_mem : ∀ {ks : List E} {k : E}, k ∈ ks → sizeE k ≤ sizeL ks
  | x :: ks, k, h => by
    show sizeE k ≤ sizeE x + sizeL ks
    rcases List.mem_cons.1 h with rfl | h
    · omega
    · have := sizeL_mem h; omega
theorem sizeL_get {ks : List E} {i : Nat} (h : i < ks.length) : sizeE ks[i] ≤ sizeL ks := sizeL_mem (List.getElem_mem h)
theorem deepL_mem : ∀ {ks : List E} {k : E}, k ∈ ks → deepE k ≤ deepL ks
  | x :: ks, k, h => by
    show deepE k ≤ max (deepE x) (deepL ks)
    rcases List.mem_cons.1 h with rfl | h
    · omega
    · have := deepL_mem h; omega
theorem sizeL_app : ∀ (a b : List E), sizeL (a ++ b) = sizeL a + sizeL b
  | [], b => by show sizeL b = 0 + sizeL b; omega
  | x :: a, b => by show sizeE x + sizeL (a ++ b) = sizeE x + sizeL a + sizeL b; rw [sizeL_app a b]; omega
theorem deepL_app : ∀ (a b : List E), deepL (a ++ b) = max (deepL a) (deepL b)
  | [], b => by show deepL b = max 0 (deepL b); omega
  | x :: a, b => by show max (deepE x) (deepL (a ++ b)) = max (max (deepE x) (deepL a)) (deepL b); rw [deepL_app a b]; omega
theorem sizeL_one (e : E) : sizeL [e] = sizeE e := rfl
theorem deepL_one (e : E) : deepL [e] = deepE e := by show max (deepE e) 0 = _; omega
theorem sizeL_take {ks : List E} {i : Nat} (h : i < ks.length) : sizeL (ks.take (i + 1)) = sizeL (ks.take i) + sizeE ks[i] := by
  rw [List.take_succ_eq_append_getElem h, sizeL_app, sizeL_one]
theorem deepL_take {ks : List E} {i : Nat} (h : i < ks.length) : deepL (ks.take (i + 1)) = max (deepL (ks.take i)) (deepE ks[i]) := by
  rw [List.take_succ_eq_append_getElem h, deepL_app, deepL_one]
theorem sizeL_take_le (ks : List E) (i : Nat) : sizeL (ks.take i) ≤ sizeL ks := by
  have h := sizeL_app (ks.take i) (ks.drop i)
  rw [List.take_append_drop] at h; omega
theorem deepL_take_le (ks : List E) (i : Nat) : deepL (ks.take i) ≤ deepL ks := by
  have h := deepL_app (ks.take i) (ks.drop i)
  rw [List.take_append_drop] at h; omega
theorem length_le_sizeL : ∀ (ks : List E), ks.length ≤ sizeL ks
  | [] => Nat.le_refl _
  | k :: ks => by have := length_le_sizeL ks; have := sizeE_pos k; show ks.length + 1 ≤ sizeE k + sizeL ks; omega
mutual
theorem deepE_le : ∀ (e : E), deepE e ≤ sizeE e
  | .mk _ _ _ ks => by have := deepL_le ks; show deepL ks + 1 ≤ 1 + sizeL ks; omega
theorem deepL_le : ∀ (ks : List E), deepL ks ≤ sizeL ks
  | [] => Nat.le_refl _
  | k :: ks => by have := deepE_le k; have := deepL_le ks; show max (deepE k) (deepL ks) ≤ sizeE k + sizeL ks; omega
end
/-- Induction over expressions. -/
theorem E.ind {P : E → Prop} (h : ∀ e : E, (∀ k ∈ e.kids, P k) → P e) : ∀ e, P e := by
  have main : ∀ N e, sizeE e ≤ N → P e := by
    intro N
    induction N with
    | zero => intro e he; have := sizeE_pos e; omega
    | succ N ih =>
      intro e he
      refine h e (fun k hk => ih k ?_)
      have := sizeL_mem hk
      rw [sizeE_kids] at he
      omega
  exact fun e => main _ e (Nat.le_refl _)

/-- What an op asks of an expression, but for what is in its Kids. -/
noncomputable def fitB (op n : Int) (s : ByteArray) (len : Nat) : Bool :=
  if op = 1 then decide (0 ≤ n ∧ n ≤ 255 ∧ s.size = 0 ∧ len = 0)
  else if op = 2 then decide (n = 0 ∧ len = 0) && nameB s
  else if op = 13 then decide (n = 0 ∧ len ≤ 3) && nameB s
  else if op = 11 ∨ op = 12 then decide (n = 0 ∧ s.size = 0 ∧ len = 1)
  else if 3 ≤ op ∧ op ≤ 10 then decide (n = 0 ∧ s.size = 0 ∧ len = 2)
  else false
/-- All parts fit, and it is at most so deep. -/
noncomputable def formE : Nat → E → Bool
  | 0, _ => false
  | d + 1, e => fitB e.op e.n e.name e.kids.length && e.kids.all (formE d)
/-- It is an expression. -/
noncomputable def validE (e : E) : Bool := formE 6 e && decide (sizeE e ≤ 30)
theorem formE_succ (d : Nat) (e : E) : formE (d + 1) e = (fitB e.op e.n e.name e.kids.length && e.kids.all (formE d)) := rfl
theorem formE_fit {d : Nat} {e : E} (h : formE d e = true) : fitB e.op e.n e.name e.kids.length = true := by
  cases d with
  | zero => cases h
  | succ d => rw [formE_succ, Bool.and_eq_true] at h; exact h.1
theorem formE_kid {d : Nat} {e k : E} (h : formE (d + 1) e = true) (hk : k ∈ e.kids) : formE d k = true := by
  rw [formE_succ, Bool.and_eq_true] at h
  exact List.all_eq_true.1 h.2 k hk
theorem formE_unfit {d : Nat} {e : E} (h : fitB e.op e.n e.name e.kids.length = false) : formE d e = false := by
  cases d with
  | zero => rfl
  | succ d => rw [formE_succ, h, Bool.false_and]
/-- The first i Kids have the form. -/
def kidsTo (d : Nat) (ks : List E) (i : Nat) : Prop := ∀ j, (h : j < ks.length) → j < i → formE d ks[j] = true
theorem kidsTo_succ {d : Nat} {ks : List E} {i : Nat} (h : kidsTo d ks i) (hi : i < ks.length) (hv : formE d ks[i] = true) : kidsTo d ks (i + 1) := by
  intro j hj hji
  by_cases e : j = i
  · subst e; exact hv
  · exact h j hj (by omega)
theorem kidsTo_zero (d : Nat) (ks : List E) : kidsTo d ks 0 := fun j _ hj => absurd hj (by omega)
theorem formE_yes {d : Nat} {e : E} (hf : fitB e.op e.n e.name e.kids.length = true) (h : kidsTo d e.kids e.kids.length) : formE (d + 1) e = true := by
  rw [formE_succ, hf, Bool.true_and, List.all_eq_true]
  intro k hk
  obtain ⟨j, hj, rfl⟩ := List.getElem_of_mem hk
  exact h j hj hj
theorem formE_bad {d : Nat} {e : E} {i : Nat} (hi : i < e.kids.length) (h : formE d e.kids[i] = false) : formE (d + 1) e = false := by
  rw [formE_succ, Bool.and_eq_false_iff]
  right
  rw [Bool.eq_false_iff]
  intro hall
  have := List.all_eq_true.1 hall _ (List.getElem_mem hi)
  rw [h] at this; cases this
theorem fitB_len {op n : Int} {s : ByteArray} {len : Nat} (h : fitB op n s len = true) : len ≤ 3 := by
  unfold fitB at h
  split at h
  · simp at h; omega
  split at h
  · simp at h; omega
  split at h
  · simp at h; omega
  split at h
  · simp at h; omega
  split at h
  · simp at h; omega
  · cases h
theorem deep_of_form : ∀ (d : Nat) (e : E), formE d e = true → deepE e ≤ d
  | 0, e, h => by cases h
  | d + 1, e, h => by
    rw [deepE_kids]
    have : ∀ ks : List E, (∀ k ∈ ks, formE d k = true) → deepL ks ≤ d := by
      intro ks
      induction ks with
      | nil => intro _; exact Nat.zero_le _
      | cons k ks ih =>
        intro h
        have h1 := deep_of_form d k (h k (List.mem_cons_self ..))
        have h2 := ih (fun x hx => h x (List.mem_cons_of_mem _ hx))
        show max (deepE k) (deepL ks) ≤ d
        omega
    have := this e.kids (fun k hk => formE_kid h hk)
    omega
theorem form_more : ∀ (d : Nat) (e : E), formE d e = true → formE (d + 1) e = true
  | 0, e, h => by cases h
  | d + 1, e, h => by
    rw [formE_succ, Bool.and_eq_true]
    exact ⟨formE_fit h, List.all_eq_true.2 fun k hk => form_more d k (formE_kid h hk)⟩
theorem form_mono {d d' : Nat} {e : E} (hd : d ≤ d') (h : formE d e = true) : formE d' e = true := by
  induction hd with
  | refl => exact h
  | step _ ih => exact form_more _ _ ih
/-- The form, however deep, and the depth are apart. -/
theorem form_deep : ∀ (d d' : Nat) (e : E), formE d e = true → deepE e ≤ d' → formE d' e = true
  | 0, _, e, h, _ => by cases h
  | d + 1, 0, e, _, h => by rw [deepE_kids] at h; omega
  | d + 1, d' + 1, e, h, hd => by
    rw [deepE_kids] at hd
    rw [formE_succ, Bool.and_eq_true]
    refine ⟨formE_fit h, List.all_eq_true.2 fun k hk => form_deep d d' k (formE_kid h hk) ?_⟩
    have := deepL_mem hk
    omega
theorem validE_form {e : E} (h : validE e = true) : formE 6 e = true := by unfold validE at h; rw [Bool.and_eq_true] at h; exact h.1
theorem validE_size {e : E} (h : validE e = true) : sizeE e ≤ 30 := by unfold validE at h; rw [Bool.and_eq_true, decide_eq_true_eq] at h; exact h.2
theorem validE_deep {e : E} (h : validE e = true) : deepE e ≤ 6 := deep_of_form 6 e (validE_form h)
end Go.Proofs.YtkhcfhhejmkikaaGreatDoor

namespace Go.Proofs.YtkhcfhhejmkikaaGreatDoor
open Go.RowKit

/-- Cells from a place on that read as Kids; all that they lead to lies below block B. -/
def RdC (w : World) (B : Nat) : List E → Nat → Nat → Prop
  | [], _, _ => True
  | .mk op n s ks' :: ks, b, o =>
    (w.cell? ⟨b, o, none⟩ = some (.int .i64 op) ∧ w.cell? ⟨b, o + 1, none⟩ = some (.int .i64 n) ∧ w.cell? ⟨b, o + 2, none⟩ = some (.string s)) ∧
    (∃ A cap, w.cell? ⟨b, o + 3, none⟩ = some (.slice A ks'.length cap) ∧ (ks' = [] ∨ ∃ b' o', A = some ⟨b', o', none⟩ ∧ b' < B ∧ RdC w B ks' b' o')) ∧ RdC w B ks b (o + 4)
/-- A slice of Kids that reads as a list. -/
def RdS (w : World) (B : Nat) (ks : List E) (A : Option Addr) : Prop := ks = [] ∨ ∃ b o, A = some ⟨b, o, none⟩ ∧ b < B ∧ RdC w B ks b o
/-- An expression as a value. -/
def exV (e : E) (A : Option Addr) (cap : Nat) : Value := .agg #[.int .i64 e.op, .int .i64 e.n, .string e.name, .slice A e.kids.length cap]
/-- A place that reads as an expression. -/
def RdAt (w : World) (B : Nat) (e : E) (b o : Nat) : Prop :=
  (w.cell? ⟨b, o, none⟩ = some (.int .i64 e.op) ∧ w.cell? ⟨b, o + 1, none⟩ = some (.int .i64 e.n) ∧ w.cell? ⟨b, o + 2, none⟩ = some (.string e.name)) ∧
    ∃ A cap, w.cell? ⟨b, o + 3, none⟩ = some (.slice A e.kids.length cap) ∧ RdS w B e.kids A
theorem RdC_cons (w : World) (B : Nat) (e : E) (ks : List E) (b o : Nat) : RdC w B (e :: ks) b o ↔ RdAt w B e b o ∧ RdC w B ks b (o + 4) := by
  obtain ⟨op, n, s, ks'⟩ := e
  unfold RdAt RdS
  rw [RdC]
  simp only [E.op, E.n, E.name, E.kids, and_assoc]
theorem RdC.get {w : World} {B : Nat} : ∀ {ks : List E} {b o : Nat}, RdC w B ks b o → ∀ {i : Nat} (h : i < ks.length), RdAt w B ks[i] b (o + i * 4)
  | [], _, _, _, i, h => absurd h (by simp)
  | e :: ks, b, o, hr, 0, _ => by
    rw [RdC_cons] at hr
    have e1 : o + 0 * 4 = o := by omega
    rw [e1]; exact hr.1
  | e :: ks, b, o, hr, i + 1, h => by
    rw [RdC_cons] at hr
    have := RdC.get hr.2 (i := i) (by simpa using h)
    have e1 : o + 4 + i * 4 = o + (i + 1) * 4 := by omega
    rw [e1] at this
    exact this
theorem RdC.mk {w : World} {B : Nat} : ∀ {ks : List E} {b o : Nat}, (∀ i, (h : i < ks.length) → RdAt w B ks[i] b (o + i * 4)) → RdC w B ks b o
  | [], _, _, _ => by rw [RdC]; trivial
  | e :: ks, b, o, h => by
    rw [RdC_cons]
    refine ⟨?_, RdC.mk fun i hi => ?_⟩
    · have := h 0 (by simp)
      have e1 : o + 0 * 4 = o := by omega
      rw [e1] at this; exact this
    have := h (i + 1) (by simpa using hi)
    have e1 : o + (i + 1) * 4 = o + 4 + i * 4 := by omega
    rw [e1] at this
    exact this
theorem RdS.at_ {w : World} {B : Nat} {ks : List E} {A : Option Addr} (h : RdS w B ks A) {i : Nat} (hi : i < ks.length) : ∃ b o, A = some ⟨b, o, none⟩ ∧ b < B ∧ RdAt w B ks[i] b (o + i * 4) := by
  rcases h with rfl | ⟨b, o, e, hb, hr⟩
  · exact absurd hi (by simp)
  · exact ⟨b, o, e, hb, hr.get hi⟩
theorem RdS.nil {w : World} {B : Nat} {A : Option Addr} : RdS w B [] A := .inl rfl
/-- What is told of Kids, told of their lists. -/
theorem rd_keep {w w' : World} {B : Nat} (hc : ∀ b o, b < B → w'.cell? ⟨b, o, none⟩ = w.cell? ⟨b, o, none⟩) {B' : Nat} (hB : B ≤ B') : ∀ (N : Nat) (ks : List E) (A : Option Addr), sizeL ks ≤ N → RdS w B ks A → RdS w' B' ks A := by
  intro N
  induction N with
  | zero =>
    intro ks A hN h
    cases ks with
    | nil => exact .inl rfl
    | cons k ks => have := sizeE_pos k; have : sizeL (k :: ks) = sizeE k + sizeL ks := rfl; omega
  | succ N ih =>
    intro ks A hN h
    rcases h with h | ⟨b, o, e, hb, hr⟩
    · exact .inl h
    · refine .inr ⟨b, o, e, by omega, RdC.mk fun i hi => ?_⟩
      obtain ⟨⟨c0, c1, c2⟩, A', cap, c3, hr'⟩ := hr.get hi
      refine ⟨⟨(hc _ _ hb).trans c0, (hc _ _ hb).trans c1, (hc _ _ hb).trans c2⟩, A', cap, (hc _ _ hb).trans c3, ih _ _ ?_ hr'⟩
      have := sizeL_get hi
      rw [sizeE_kids] at this
      omega
theorem RdS.below {w w' : World} {B : Nat} {ks : List E} {A : Option Addr} (h : RdS w B ks A) (hb : Below B w w') : RdS w' B ks A :=
  rd_keep (fun b _ h => hb.cell (p := ⟨b, _, none⟩) h) (Nat.le_refl _) _ _ _ (Nat.le_refl _) h
theorem RdS.more {w : World} {B B' : Nat} {ks : List E} {A : Option Addr} (h : RdS w B ks A) (hB : B ≤ B') : RdS w B' ks A :=
  rd_keep (fun _ _ _ => rfl) hB _ _ _ (Nat.le_refl _) h
theorem RdS.on {w w' : World} {B : Nat} {ks : List E} {A : Option Addr} (h : RdS w B ks A) (hb : Below B w w') (hB : B ≤ w'.heap.size) : RdS w' w'.heap.size ks A := (h.below hb).more hB
theorem RdAt.below {w w' : World} {B : Nat} {e : E} {b o : Nat} (h : RdAt w B e b o) (hb : Below B w w') (h0 : b < B) : RdAt w' B e b o := by
  obtain ⟨⟨c0, c1, c2⟩, A', cap, c3, hr'⟩ := h
  exact ⟨⟨(hb.cell (p := ⟨b, _, none⟩) h0).trans c0, (hb.cell (p := ⟨b, _, none⟩) h0).trans c1, (hb.cell (p := ⟨b, _, none⟩) h0).trans c2⟩, A', cap, (hb.cell (p := ⟨b, _, none⟩) h0).trans c3, hr'.below hb⟩
mutual
/-- What an expression holds: bytes of names and lengths of lists. -/
def bulkE : E → Nat
  | .mk _ _ s ks => s.size + bulkL ks
def bulkL : List E → Nat
  | [] => 0
  | k :: ks => 1 + bulkE k + bulkL ks
end
theorem bulkE_kids (e : E) : bulkE e = e.name.size + bulkL e.kids := by cases e; rfl
theorem bulkL_mem : ∀ {ks : List E} {k : E}, k ∈ ks → bulkE k + 1 ≤ bulkL ks
  | x :: ks, k, h => by
    show bulkE k + 1 ≤ 1 + bulkE x + bulkL ks
    rcases List.mem_cons.1 h with rfl | h
    · omega
    · have := bulkL_mem h; omega
theorem bulkL_app : ∀ (a b : List E), bulkL (a ++ b) = bulkL a + bulkL b
  | [], b => by show bulkL b = 0 + bulkL b; omega
  | x :: a, b => by show 1 + bulkE x + bulkL (a ++ b) = 1 + bulkE x + bulkL a + bulkL b; rw [bulkL_app a b]; omega
theorem bulkL_take {ks : List E} {i : Nat} (h : i < ks.length) : bulkL (ks.take (i + 1)) = bulkL (ks.take i) + (1 + bulkE ks[i]) := by
  rw [List.take_succ_eq_append_getElem h, bulkL_app]; show _ + (1 + bulkE ks[i] + 0) = _; omega
mutual
theorem sizeE_bulk : ∀ (e : E), sizeE e ≤ 1 + bulkE e
  | .mk _ _ s ks => by have := sizeL_bulk ks; show 1 + sizeL ks ≤ 1 + (s.size + bulkL ks); omega
theorem sizeL_bulk : ∀ (ks : List E), sizeL ks ≤ bulkL ks
  | [] => Nat.le_refl _
  | k :: ks => by have := sizeE_bulk k; have := sizeL_bulk ks; show sizeE k + sizeL ks ≤ 1 + bulkE k + bulkL ks; omega
end
end Go.Proofs.YtkhcfhhejmkikaaGreatDoor
