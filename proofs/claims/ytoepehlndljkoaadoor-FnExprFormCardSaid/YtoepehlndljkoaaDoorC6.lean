/-
  Cutting: what the functions on runs and words return.
-/
import Derived.Test.YtoepehlndljkoaaDoorCutM
import Derived.Test.YtoepehlndljkoaaDoorJoin
namespace Go.Proofs.YtoepehlndljkoaaDoor
open Go.RowKit
set_option maxRecDepth 100000

/-- A word, and new blocks at most. -/
def WordRet (z : Int) (t : ByteArray) (w : World) (e : Ending) (w' : World) : Prop := e = .returned (.agg #[.int .i64 z, .string t]) ∧ Below w.heap.size w w'

/-- A variable of the call's own, behind a callee: its cells are there, and can be written. -/
theorem own_cells {w w2 : World} {c0 c1 : Value} {t : TypeId} (hb : Below (w.alloc (.cells #[c0, c1] t (0, 0))).heap.size (w.alloc (.cells #[c0, c1] t (0, 0))) w2) :
    w2.cell? ⟨w.heap.size, 0, none⟩ = some c0 ∧ w2.cell? ⟨w.heap.size, 1, none⟩ = some c1 ∧ w2.frozen? ⟨w.heap.size, 0, none⟩ = false ∧ w2.frozen? ⟨w.heap.size, 1, none⟩ = false := by
  have hlt : w.heap.size < (w.alloc (.cells #[c0, c1] t (0, 0))).heap.size := by show _ < (w.heap.push _).size; simp
  refine ⟨?_, ?_, ?_, ?_⟩
  · rw [hb.cell (p := ⟨w.heap.size, 0, none⟩) hlt, alloc_cell]; rfl
  · rw [hb.cell (p := ⟨w.heap.size, 1, none⟩) hlt, alloc_cell]; rfl
  · rw [hb.frozen (p := ⟨w.heap.size, 0, none⟩) hlt, alloc_frozen]
  · rw [hb.frozen (p := ⟨w.heap.size, 1, none⟩) hlt, alloc_frozen]

theorem own_set {w : World} {b : Nat} {c0 c1 : Value} (h0 : w.cell? ⟨b, 0, none⟩ = some c0) (h1 : w.cell? ⟨b, 1, none⟩ = some c1) :
    (∀ z, (w.setCell ⟨b, 0, none⟩ z).cell? ⟨b, 0, none⟩ = some z) ∧ (∀ z t, ((w.setCell ⟨b, 0, none⟩ z).setCell ⟨b, 1, none⟩ t).cell? ⟨b, 1, none⟩ = some t) := by
  refine ⟨fun z => World.cell?_setCell_same _ _ _ h0, fun z t => ?_⟩
  exact World.cell?_setCell_same _ _ _ (u := c1) (by rw [World.cell?_setCell_other _ _ _ _ (by simp)]; exact h1)

set_option maxHeartbeats 400000 in
theorem wordOf_any (t : ByteArray) (w : World) (h0 : 0 < t.size) (T : Tabs w) :
    Calls Tryd.prog 55 #[.string t] w (WordRet (runKind t) t w) := by
  have hb0 : Below w.heap.size w (w.alloc (.cells #[.int .i64 0, .string ⟨#[]⟩] 54)) := (Below.refl _ _).alloc (Nat.le_refl _) _
  have T1 := T.below hb0
  have C1 := Lib.hid (isKey_any t _ T1)
  have C2 := Lib.hid (kindOfByte_any t[0] _ T1)
  unfold runKind
  rw [dif_pos h0]
  generalize kindN t[0].toNat = z at *
  cases hk : isKeyB t
  all_goals
    rw [hk] at C1
    clear hk T T1
    go_enter Tryd.func55, Tryd.ntmps55
    go_wp2_with fail
    refine C1.out.mono ?_
    rintro e w1 ⟨rfl, rfl⟩
    go_wp2_with fail
  · refine C2.out.mono ?_
    rintro e w2 ⟨rfl, rfl⟩
    clear C1 C2
    go_wp2
    go_returns
    exact ⟨rfl, (Below.refl _ _).alloc (Nat.le_refl _) _⟩
  · clear C1 C2
    go_wp2
    go_returns
    exact ⟨rfl, (Below.refl _ _).alloc (Nat.le_refl _) _⟩

/-- Does a kind go on with a state? -/
def goB (z z' : Int) : Bool := z' == z && (z == 1 || z == 2 || z == 5)
theorem goB_kind (z : Int) (b : UInt8) : goB z (kindN b.toNat) = goKind z b := rfl

/-- Texts as values. -/
def strCells (l : List ByteArray) : List Value := l.map Value.string
theorem strCells_snoc (l : List ByteArray) (t : ByteArray) : strCells (l ++ [t]) = strCells l ++ [.string t] := by unfold strCells; simp
theorem strCells_len (l : List ByteArray) : (strCells l).length = l.length := by unfold strCells; simp

/-- Where a cutter of runs stands: i bytes are gone through, the run that has been begun begins at b, its kind is z. -/
def cutRel (s : ByteArray) (i b : Nat) (z : Int) (xs : List ByteArray) : Prop :=
  (i = 0 ∧ b = 0 ∧ z = 0 ∧ xs = []) ∨ (∃ h : b < i, ∃ hi : i ≤ s.size, z = kindN (s[b]'(by omega)).toNat ∧ runsF s 0 = xs ++ runsF s b ∧ endK s b (by omega) = scanP s (goKind z) i ∧ xs.length ≤ b)
theorem cutRel_on {s : ByteArray} {i b : Nat} {z : Int} {xs : List ByteArray} (h : cutRel s i b z xs) (hi : i < s.size) (hg : goB z (kindN s[i].toNat) = true) : cutRel s (i + 1) b z xs := by
  rcases h with ⟨_, _, rfl, _⟩ | ⟨h1, h2, h3, h4, h5, h6⟩
  · unfold goB at hg; simp at hg
  · exact .inr ⟨by omega, hi, h3, h4, by rw [h5, scanP_step hi (by rw [← goB_kind]; exact hg)], h6⟩
theorem cutRel_new {s : ByteArray} {i b : Nat} {z : Int} {xs : List ByteArray} (h : cutRel s i b z xs) (hi : i < s.size) (hg : goB z (kindN s[i].toNat) = false) :
    cutRel s (i + 1) i (kindN s[i].toNat) (if b < i then xs ++ [s.extract b i] else xs) := by
  rcases h with ⟨rfl, rfl, _, rfl⟩ | ⟨h1, h2, h3, h4, h5, h6⟩
  · right
    refine ⟨by omega, hi, rfl, by simp, rfl, by simp⟩
  · right
    rw [if_pos h1]
    have he : endK s b (by omega) = i := by
      rw [h5]; exact scanP_stop (fun h => by rw [← goB_kind]; exact hg)
    refine ⟨by omega, hi, rfl, ?_, rfl, by simp; omega⟩
    rw [h4, runsF_step (show b < s.size by omega), he]
    simp
theorem cutRel_end {s : ByteArray} {b : Nat} {z : Int} {xs : List ByteArray} (h : cutRel s s.size b z xs) : runsF s 0 = if b < s.size then xs ++ [s.extract b s.size] else xs := by
  rcases h with ⟨h1, rfl, _, rfl⟩ | ⟨h1, h2, h3, h4, h5, h6⟩
  · rw [if_neg (by omega), runsF_end (by omega)]
  · rw [if_pos h1]
    have he : endK s b h1 = s.size := by
      have := scanP_stop (s := s) (p := goKind z) (k := s.size) (fun h => absurd h (by omega))
      rw [this] at h5; exact h5
    rw [h4, runsF_step h1, he, runsF_end (by omega)]
theorem cutRel_bd {s : ByteArray} {i b : Nat} {z : Int} {xs : List ByteArray} (h : cutRel s i b z xs) : b ≤ i ∧ xs.length ≤ b := by
  rcases h with ⟨rfl, rfl, _, rfl⟩ | ⟨h1, _, _, _, _, h6⟩
  · simp
  · omega

/-- Texts in memory of the call's own. -/
def RunsRet (l : List ByteArray) (w : World) (e : Ending) (w' : World) : Prop :=
  (∃ v, e = .returned v ∧ w'.ownsRow w.heap.size 9 1 v l.length (strCells l)) ∧ Below w.heap.size w w'
theorem textOne : ∀ (t : ByteArray), ∀ u ∈ [Value.string t], u.oneCell' = true := by intro t u hu; simp at hu; subst hu; rfl

end Go.Proofs.YtoepehlndljkoaaDoor
