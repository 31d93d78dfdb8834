/-
  What instructions of an Op have: the program's table, what the model tells; MadeBy of both.
-/
import Derived.Test.YtjiimcbfniknoaaNB
namespace Go.Proofs.Ytjiimcbfniknoaa
open Go.RowKit
set_option maxRecDepth 100000

def iNameL : List (List UInt8) := [[], [110, 117, 109], [99, 111, 112, 121], [97, 100, 100], [115, 117, 98], [109, 117, 108], [100, 105, 118], [114, 101, 109], [108, 101, 115, 115], [115, 97, 109, 101], [110, 111, 116], [97, 116], [112, 117, 116], [115, 97, 121], [99, 97, 108, 108]]
def iMakesL : List Bool := [false, true, true, true, true, true, true, true, true, true, true, true, false, false, true]
def iTellsL : List Bool := [false, true, false, false, false, false, false, false, false, false, false, false, false, false, true]
def iArgsL : List Int := [0, 0, 1, 2, 2, 2, 2, 2, 2, 2, 1, 1, 2, 1, 0]
/-- What the instructions of an Op have. -/
def iName (op : Int) : ByteArray := ⟨(iNameL.getD op.toNat []).toArray⟩
def iMakes (op : Int) : Bool := iMakesL.getD op.toNat false
def iTells (op : Int) : Bool := iTellsL.getD op.toNat false
def iArgs (op : Int) : Int := iArgsL.getD op.toNat 0
def iRow (op : Int) : List Value := [.string (iName op), .bool (iMakes op), .bool (iTells op), .int .i64 (iArgs op)]
def insV (op : Int) : Value := .agg #[.string (iName op), .bool (iMakes op), .bool (iTells op), .int .i64 (iArgs op)]
def insCells : List Value := ((List.range 15).map fun (k : Nat) => iRow (k : Int)).flatten
theorem insCells_at (k : Nat) (hk : k < 15) : insCells[k * 4]? = some (.string (iName k)) ∧ insCells[k * 4 + 1]? = some (.bool (iMakes k)) ∧ insCells[k * 4 + 2]? = some (.bool (iTells k)) ∧ insCells[k * 4 + 3]? = some (.int .i64 (iArgs k)) := by
  have h : k = 0 ∨ k = 1 ∨ k = 2 ∨ k = 3 ∨ k = 4 ∨ k = 5 ∨ k = 6 ∨ k = 7 ∨ k = 8 ∨ k = 9 ∨ k = 10 ∨ k = 11 ∨ k = 12 ∨ k = 13 ∨ k = 14 := by omega
  rcases h with rfl | rfl | rfl | rfl | rfl | rfl | rfl | rfl | rfl | rfl | rfl | rfl | rfl | rfl | rfl <;> exact ⟨rfl, rfl, rfl, rfl⟩
theorem row_cell {w : World} {b k : Nat} {cs : Array Value} {t : TypeId} {fr : Nat × Nat} {v : Value} (h : w.heap[b]? = some (.cells cs t fr)) (hv : cs[k]? = some v) : w.cell? ⟨b, k, none⟩ = some v := by
  unfold World.cell?
  simp only [h]
  exact hv
theorem ins_none {op : Int} (h : op < 0 ∨ 15 ≤ op) : insV op = .agg #[.string ⟨#[]⟩, .bool false, .bool false, .int .i64 0] := by
  rcases h with h | h
  · have : op.toNat = 0 := by omega
    unfold insV iName iMakes iTells iArgs
    rw [this]; rfl
  · have h' : 15 ≤ op.toNat := by omega
    unfold insV iName iMakes iTells iArgs
    simp only [List.getD_eq_getElem?_getD]
    rw [List.getElem?_eq_none (by exact h'), List.getElem?_eq_none (by exact h'), List.getElem?_eq_none (by exact h'), List.getElem?_eq_none (by exact h')]
    rfl
def VB (v : Value) (w : World) (e : Ending) (w' : World) : Prop := e = .returned v ∧ Below w.heap.size w w'
theorem Below.sets4 {B : Nat} {w w' : World} {n : Nat} (h : Below B w w') (hn : B ≤ n) (v0 v1 v2 v3 : Value) :
    Below B w ((((w'.setCell ⟨n, 0, none⟩ v0).setCell ⟨n, 1, none⟩ v1).setCell ⟨n, 2, none⟩ v2).setCell ⟨n, 3, none⟩ v3) :=
  (((h.setCell (p := ⟨n, 0, none⟩) hn _).setCell (p := ⟨n, 1, none⟩) hn _).setCell (p := ⟨n, 2, none⟩) hn _).setCell (p := ⟨n, 3, none⟩) hn _
def jNameL : List (List UInt8) := [[], [103, 111], [105, 102], [98, 97, 99, 107]]
def jUsesL : List Bool := [false, false, true, true]
def jNextL : List Int := [0, 1, 2, 0]
/-- What the blocks with a Jump have. -/
def jName (op : Int) : ByteArray := ⟨(jNameL.getD op.toNat []).toArray⟩
def jUses (op : Int) : Bool := jUsesL.getD op.toNat false
def jNext (op : Int) : Int := jNextL.getD op.toNat 0
def jRow (op : Int) : List Value := [.string (jName op), .bool (jUses op), .int .i64 (jNext op)]
def jmpV (op : Int) : Value := .agg #[.string (jName op), .bool (jUses op), .int .i64 (jNext op)]
def jmpCells : List Value := ((List.range 4).map fun (k : Nat) => jRow (k : Int)).flatten
theorem jmpCells_at (k : Nat) (hk : k < 4) : jmpCells[k * 3]? = some (.string (jName k)) ∧ jmpCells[k * 3 + 1]? = some (.bool (jUses k)) ∧ jmpCells[k * 3 + 2]? = some (.int .i64 (jNext k)) := by
  have h : k = 0 ∨ k = 1 ∨ k = 2 ∨ k = 3 := by omega
  rcases h with rfl | rfl | rfl | rfl <;> exact ⟨rfl, rfl, rfl⟩
theorem jmp_none {op : Int} (h : op < 0 ∨ 4 ≤ op) : jmpV op = .agg #[.string ⟨#[]⟩, .bool false, .int .i64 0] := by
  rcases h with h | h
  · have : op.toNat = 0 := by omega
    unfold jmpV jName jUses jNext
    rw [this]; rfl
  · have h' : 4 ≤ op.toNat := by omega
    unfold jmpV jName jUses jNext
    simp only [List.getD_eq_getElem?_getD]
    rw [List.getElem?_eq_none (by exact h'), List.getElem?_eq_none (by exact h'), List.getElem?_eq_none (by exact h')]
    rfl
theorem uIn_any (n a b : Int) (w : World) :
    Calls Try.prog 33 #[.int .i64 n, .int .i64 a, .int .i64 b] w fun e w' => e = .returned (.bool (decide (a ≤ n ∧ n ≤ b))) ∧ w = w' := by
  by_cases h1 : a ≤ n
  · by_cases h2 : n ≤ b
    · go_enter Try.func33, Try.ntmps33
      go_wp2
      go_ret
      exact ⟨ret_bool (by simp [h1, h2]), rfl⟩
    · go_enter Try.func33, Try.ntmps33
      go_wp2
      go_ret
      exact ⟨ret_bool (by simp [h2]), rfl⟩
  · go_enter Try.func33, Try.ntmps33
    go_wp2
    go_ret
    exact ⟨ret_bool (by simp; omega), rfl⟩
theorem iMakes_eq (op : Int) : iMakes op = decide (1 ≤ op ∧ op ≤ 14 ∧ op ≠ 12 ∧ op ≠ 13) := by
  by_cases h : 0 ≤ op ∧ op < 15
  · obtain ⟨k, rfl⟩ := Int.eq_ofNat_of_zero_le h.1
    have h : k = 0 ∨ k = 1 ∨ k = 2 ∨ k = 3 ∨ k = 4 ∨ k = 5 ∨ k = 6 ∨ k = 7 ∨ k = 8 ∨ k = 9 ∨ k = 10 ∨ k = 11 ∨ k = 12 ∨ k = 13 ∨ k = 14 := by omega
    rcases h with rfl | rfl | rfl | rfl | rfl | rfl | rfl | rfl | rfl | rfl | rfl | rfl | rfl | rfl | rfl <;> rfl
  · have h' : op < 0 ∨ 15 ≤ op := by omega
    rw [show decide (1 ≤ op ∧ op ≤ 14 ∧ op ≠ 12 ∧ op ≠ 13) = false by rw [decide_eq_false_iff_not]; omega]
    have := ins_none h'
    unfold insV at this
    injection this with this
    have := congrArg (fun a => a[1]?) this
    simpa using this
end Go.Proofs.Ytjiimcbfniknoaa
