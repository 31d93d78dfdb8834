/-
  What instructions of an Op have: the program's table, what the model tells; MadeBy of both.
-/
import Derived.Test.YtomhomnibikceaaDoorNB
namespace Go.Proofs.YtomhomnibikceaaDoor
open Go.RowKit
set_option maxRecDepth 100000

def iNameL : List (List UInt8) := [[], [110, 117, 109], [99, 111, 112, 121], [97, 100, 100], [115, 117, 98], [109, 117, 108], [100, 105, 118], [114, 101, 109], [108, 101, 115, 115], [115, 97, 109, 101], [110, 111, 116], [97, 116], [112, 117, 116], [115, 97, 121], [99, 97, 108, 108]]
def iMakesL : List Bool := [false, true, true, true, true, true, true, true, true, true, true, true, false, false, true]
def iTellsL : List Bool := [false, true, false, false, false, false, false, false, false, false, false, false, false, false, true]
def iArgsL : List Int := [0, 0, 1, 2, 2, 2, 2, 2, 2, 2, 1, 1, 2, 1, 0]
/-- What the instructions of an Op have. -/
def iName (op : Int) : ByteArray := ⟨(iNameL.getD op.toNat []).toArray⟩
def iMakes (op : Int) : Bool := iMakesL.getD op.toNat false
def iTells (op : Int) : Bool := iTellsL.getD op.toNat false
def iArgs (op : Int) : Int := iArgsL.getD op.toNat 0
def iRow (op : Int) : List Value := [.string (iName op), .bool (iMakes op), .bool (iTells op), .int .i64 (iArgs op)]
def insV (op : Int) : Value := .agg #[.string (iName op), .bool (iMakes op), .bool (iTells op), .int .i64 (iArgs op)]
def insCells : List Value := ((List.range 15).map fun (k : Nat) => iRow (k : Int)).flatten
/-- The program's table of instructions stands in the world. -/
structure InsT (w : World) : Prop where
  row : ∃ t fr, w.heap[0]? = some (.cells insCells.toArray t fr)
theorem InsT.below {w w' : World} (T : InsT w) (hb : Below w.heap.size w w') : InsT w' := by
  obtain ⟨t, fr, h⟩ := T.row
  exact ⟨t, fr, by rw [hb.block _ (Array.getElem?_eq_some_iff.1 h).1]; exact h⟩
theorem insCells_at (k : Nat) (hk : k < 15) : insCells[k * 4]? = some (.string (iName k)) ∧ insCells[k * 4 + 1]? = some (.bool (iMakes k)) ∧ insCells[k * 4 + 2]? = some (.bool (iTells k)) ∧ insCells[k * 4 + 3]? = some (.int .i64 (iArgs k)) := by
  have h : k = 0 ∨ k = 1 ∨ k = 2 ∨ k = 3 ∨ k = 4 ∨ k = 5 ∨ k = 6 ∨ k = 7 ∨ k = 8 ∨ k = 9 ∨ k = 10 ∨ k = 11 ∨ k = 12 ∨ k = 13 ∨ k = 14 := by omega
  rcases h with rfl | rfl | rfl | rfl | rfl | rfl | rfl | rfl | rfl | rfl | rfl | rfl | rfl | rfl | rfl <;> exact ⟨rfl, rfl, rfl, rfl⟩
theorem row_cell {w : World} {b k : Nat} {cs : Array Value} {t : TypeId} {fr : Nat × Nat} {v : Value} (h : w.heap[b]? = some (.cells cs t fr)) (hv : cs[k]? = some v) : w.cell? ⟨b, k, none⟩ = some v := by
  unfold World.cell?
  simp only [h]
  exact hv
theorem InsT.at_ {w : World} (T : InsT w) {op : Int} (h0 : 0 ≤ op) (h1 : op < 15) :
    w.cell? ⟨0, op.toNat * 4, none⟩ = some (.string (iName op)) ∧ w.cell? ⟨0, op.toNat * 4 + 1, none⟩ = some (.bool (iMakes op)) ∧
    w.cell? ⟨0, op.toNat * 4 + 2, none⟩ = some (.bool (iTells op)) ∧ w.cell? ⟨0, op.toNat * 4 + 3, none⟩ = some (.int .i64 (iArgs op)) := by
  obtain ⟨t, fr, h⟩ := T.row
  obtain ⟨k, rfl⟩ := Int.eq_ofNat_of_zero_le h0
  obtain ⟨a, b, c, d⟩ := insCells_at k (by omega)
  exact ⟨row_cell h (by simpa using a), row_cell h (by simpa using b), row_cell h (by simpa using c), row_cell h (by simpa using d)⟩
theorem ins_none {op : Int} (h : op < 0 ∨ 15 ≤ op) : insV op = .agg #[.string ⟨#[]⟩, .bool false, .bool false, .int .i64 0] := by
  rcases h with h | h
  · have : op.toNat = 0 := by omega
    unfold insV iName iMakes iTells iArgs
    rw [this]; rfl
  · have h' : 15 ≤ op.toNat := by omega
    unfold insV iName iMakes iTells iArgs
    simp only [List.getD_eq_getElem?_getD]
    rw [List.getElem?_eq_none (by exact h'), List.getElem?_eq_none (by exact h'), List.getElem?_eq_none (by exact h'), List.getElem?_eq_none (by exact h')]
    rfl
def VB (v : Value) (w : World) (e : Ending) (w' : World) : Prop := e = .returned v ∧ Below w.heap.size w w'
theorem Below.sets4 {B : Nat} {w w' : World} {n : Nat} (h : Below B w w') (hn : B ≤ n) (v0 v1 v2 v3 : Value) :
    Below B w ((((w'.setCell ⟨n, 0, none⟩ v0).setCell ⟨n, 1, none⟩ v1).setCell ⟨n, 2, none⟩ v2).setCell ⟨n, 3, none⟩ v3) :=
  (((h.setCell (p := ⟨n, 0, none⟩) hn _).setCell (p := ⟨n, 1, none⟩) hn _).setCell (p := ⟨n, 2, none⟩) hn _).setCell (p := ⟨n, 3, none⟩) hn _
set_option maxHeartbeats 2000000 in
theorem insForm_any (op : Int) (w : World) (T : InsT w) : Calls Tryd.prog 82 #[.int .i64 op] w (VB (insV op) w) := by
  have hb0 : Below w.heap.size w (w.alloc (.cells #[.string ⟨#[]⟩, .bool false, .bool false, .int .i64 0] 117)) := (Below.refl _ _).alloc (Nat.le_refl _) _
  have d := fun k => alloc_cell w #[.string ⟨#[]⟩, .bool false, .bool false, .int .i64 0] 117 (0, 0) k
  have hf : ∀ o, (w.alloc (.cells #[.string ⟨#[]⟩, .bool false, .bool false, .int .i64 0] 117)).frozen? ⟨w.heap.size, o, none⟩ = false := fun o => alloc_frozen _ _ _ o
  have d0 := d 0
  have d1 := d 1
  have d2 := d 2
  have d3 := d 3
  have f0 := hf 0
  have f1 := hf 1
  have f2 := hf 2
  have f3 := hf 3
  clear d hf
  by_cases hn : op < 0
  · have HV := Lib.hid (ins_none (.inl hn))
    clear T
    go_enter Tryd.func82, Tryd.ntmps82
    go_wp2_with fail
    refine bodyPost_ret (v := insV op) (by rw [HV.out]; simp [results, Tryd.results82, go_sem, d0, d1, d2, d3]) rfl ⟨rfl, hb0⟩
  by_cases hg : 15 ≤ op
  · have HV := Lib.hid (ins_none (.inr hg))
    clear T
    go_enter Tryd.func82, Tryd.ntmps82
    go_wp2_with fail
    refine bodyPost_ret (v := insV op) (by rw [HV.out]; simp [results, Tryd.results82, go_sem, d0, d1, d2, d3]) rfl ⟨rfl, hb0⟩
  · obtain ⟨c0, c1, c2, c3⟩ := (T.below hb0).at_ (op := op) (by omega) (by omega)
    have HV := Lib.hid (show insV op = .agg #[.string (iName op), .bool (iMakes op), .bool (iTells op), .int .i64 (iArgs op)] from rfl)
    generalize insV op = iv at *
    generalize iName op = nm at *
    generalize iMakes op = mk at *
    generalize iTells op = tl at *
    generalize iArgs op = ar at *
    obtain ⟨k, rfl⟩ := Int.eq_ofNat_of_zero_le (show 0 ≤ op by omega)
    simp only [Int.toNat_natCast] at c0 c1 c2 c3
    clear T
    go_enter Tryd.func82, Tryd.ntmps82
    go_wp2_with fail
    have e := fun k => alloc_cell w #[.string nm, .bool mk, .bool tl, .int .i64 ar] 117 (0, 0) k
    have e0 := e 0
    have e1 := e 1
    have e2 := e 2
    have e3 := e 3
    refine bodyPost_ret (v := iv) (by rw [HV.out]; simp [results, Tryd.results82, go_sem, e0, e1, e2, e3]) rfl ⟨rfl, (Below.refl _ _).alloc (Nat.le_refl _) _⟩
theorem insField0 (nm : ByteArray) (m t : Bool) (a : Int) (w : World) : (Instr.field 117 (.agg #[.string nm, .bool m, .bool t, .int .i64 a]) 0).run Tryd.prog w = .ok (.string nm) w := by kernel_rfl
theorem insField1 (nm : ByteArray) (m t : Bool) (a : Int) (w : World) : (Instr.field 117 (.agg #[.string nm, .bool m, .bool t, .int .i64 a]) 1).run Tryd.prog w = .ok (.bool m) w := by kernel_rfl
theorem insField2 (nm : ByteArray) (m t : Bool) (a : Int) (w : World) : (Instr.field 117 (.agg #[.string nm, .bool m, .bool t, .int .i64 a]) 2).run Tryd.prog w = .ok (.bool t) w := by kernel_rfl
theorem insField3 (nm : ByteArray) (m t : Bool) (a : Int) (w : World) : (Instr.field 117 (.agg #[.string nm, .bool m, .bool t, .int .i64 a]) 3).run Tryd.prog w = .ok (.int .i64 a) w := by kernel_rfl
def jNameL : List (List UInt8) := [[], [103, 111], [105, 102], [98, 97, 99, 107]]
def jUsesL : List Bool := [false, false, true, true]
def jNextL : List Int := [0, 1, 2, 0]
/-- What the blocks with a Jump have. -/
def jName (op : Int) : ByteArray := ⟨(jNameL.getD op.toNat []).toArray⟩
def jUses (op : Int) : Bool := jUsesL.getD op.toNat false
def jNext (op : Int) : Int := jNextL.getD op.toNat 0
def jRow (op : Int) : List Value := [.string (jName op), .bool (jUses op), .int .i64 (jNext op)]
def jmpV (op : Int) : Value := .agg #[.string (jName op), .bool (jUses op), .int .i64 (jNext op)]
def jmpCells : List Value := ((List.range 4).map fun (k : Nat) => jRow (k : Int)).flatten
/-- The program's table of jumps stands in the world. -/
structure JmpT (w : World) : Prop where
  row : ∃ t fr, w.heap[1]? = some (.cells jmpCells.toArray t fr)
theorem JmpT.below {w w' : World} (T : JmpT w) (hb : Below w.heap.size w w') : JmpT w' := by
  obtain ⟨t, fr, h⟩ := T.row
  exact ⟨t, fr, by rw [hb.block _ (Array.getElem?_eq_some_iff.1 h).1]; exact h⟩
theorem jmpCells_at (k : Nat) (hk : k < 4) : jmpCells[k * 3]? = some (.string (jName k)) ∧ jmpCells[k * 3 + 1]? = some (.bool (jUses k)) ∧ jmpCells[k * 3 + 2]? = some (.int .i64 (jNext k)) := by
  have h : k = 0 ∨ k = 1 ∨ k = 2 ∨ k = 3 := by omega
  rcases h with rfl | rfl | rfl | rfl <;> exact ⟨rfl, rfl, rfl⟩
theorem JmpT.at_ {w : World} (T : JmpT w) {op : Int} (h0 : 0 ≤ op) (h1 : op < 4) :
    w.cell? ⟨1, op.toNat * 3, none⟩ = some (.string (jName op)) ∧ w.cell? ⟨1, op.toNat * 3 + 1, none⟩ = some (.bool (jUses op)) ∧ w.cell? ⟨1, op.toNat * 3 + 2, none⟩ = some (.int .i64 (jNext op)) := by
  obtain ⟨t, fr, h⟩ := T.row
  obtain ⟨k, rfl⟩ := Int.eq_ofNat_of_zero_le h0
  obtain ⟨a, b, c⟩ := jmpCells_at k (by omega)
  exact ⟨row_cell h (by simpa using a), row_cell h (by simpa using b), row_cell h (by simpa using c)⟩
theorem jmp_none {op : Int} (h : op < 0 ∨ 4 ≤ op) : jmpV op = .agg #[.string ⟨#[]⟩, .bool false, .int .i64 0] := by
  rcases h with h | h
  · have : op.toNat = 0 := by omega
    unfold jmpV jName jUses jNext
    rw [this]; rfl
  · have h' : 4 ≤ op.toNat := by omega
    unfold jmpV jName jUses jNext
    simp only [List.getD_eq_getElem?_getD]
    rw [List.getElem?_eq_none (by exact h'), List.getElem?_eq_none (by exact h'), List.getElem?_eq_none (by exact h')]
    rfl
set_option maxHeartbeats 2000000 in
theorem jumpForm_any (op : Int) (w : World) (T : JmpT w) : Calls Tryd.prog 83 #[.int .i64 op] w (VB (jmpV op) w) := by
  have hb0 : Below w.heap.size w (w.alloc (.cells #[.string ⟨#[]⟩, .bool false, .int .i64 0] 121)) := (Below.refl _ _).alloc (Nat.le_refl _) _
  have d := fun k => alloc_cell w #[.string ⟨#[]⟩, .bool false, .int .i64 0] 121 (0, 0) k
  have hf : ∀ o, (w.alloc (.cells #[.string ⟨#[]⟩, .bool false, .int .i64 0] 121)).frozen? ⟨w.heap.size, o, none⟩ = false := fun o => alloc_frozen _ _ _ o
  have d0 := d 0
  have d1 := d 1
  have d2 := d 2
  have f0 := hf 0
  have f1 := hf 1
  have f2 := hf 2
  clear d hf
  by_cases hn : op < 0
  · have HV := Lib.hid (jmp_none (.inl hn))
    clear T
    go_enter Tryd.func83, Tryd.ntmps83
    go_wp2_with fail
    refine bodyPost_ret (v := jmpV op) (by rw [HV.out]; simp [results, Tryd.results83, go_sem, d0, d1, d2]) rfl ⟨rfl, hb0⟩
  by_cases hg : 4 ≤ op
  · have HV := Lib.hid (jmp_none (.inr hg))
    clear T
    go_enter Tryd.func83, Tryd.ntmps83
    go_wp2_with fail
    refine bodyPost_ret (v := jmpV op) (by rw [HV.out]; simp [results, Tryd.results83, go_sem, d0, d1, d2]) rfl ⟨rfl, hb0⟩
  · obtain ⟨c0, c1, c2⟩ := (T.below hb0).at_ (op := op) (by omega) (by omega)
    have HV := Lib.hid (show jmpV op = .agg #[.string (jName op), .bool (jUses op), .int .i64 (jNext op)] from rfl)
    generalize jmpV op = iv at *
    generalize jName op = nm at *
    generalize jUses op = us at *
    generalize jNext op = nx at *
    obtain ⟨k, rfl⟩ := Int.eq_ofNat_of_zero_le (show 0 ≤ op by omega)
    simp only [Int.toNat_natCast] at c0 c1 c2
    clear T
    go_enter Tryd.func83, Tryd.ntmps83
    go_wp2_with fail
    have e := fun k => alloc_cell w #[.string nm, .bool us, .int .i64 nx] 121 (0, 0) k
    have e0 := e 0
    have e1 := e 1
    have e2 := e 2
    refine bodyPost_ret (v := iv) (by rw [HV.out]; simp [results, Tryd.results83, go_sem, e0, e1, e2]) rfl ⟨rfl, (Below.refl _ _).alloc (Nat.le_refl _) _⟩
theorem uIn_any (n a b : Int) (w : World) :
    Calls Tryd.prog 42 #[.int .i64 n, .int .i64 a, .int .i64 b] w fun e w' => e = .returned (.bool (decide (a ≤ n ∧ n ≤ b))) ∧ w = w' := by
  by_cases h1 : a ≤ n
  · by_cases h2 : n ≤ b
    · go_enter Tryd.func42, Tryd.ntmps42
      go_wp2
      go_ret
      exact ⟨ret_bool (by simp [h1, h2]), rfl⟩
    · go_enter Tryd.func42, Tryd.ntmps42
      go_wp2
      go_ret
      exact ⟨ret_bool (by simp [h2]), rfl⟩
  · go_enter Tryd.func42, Tryd.ntmps42
    go_wp2
    go_ret
    exact ⟨ret_bool (by simp; omega), rfl⟩
theorem iMakes_eq (op : Int) : iMakes op = decide (1 ≤ op ∧ op ≤ 14 ∧ op ≠ 12 ∧ op ≠ 13) := by
  by_cases h : 0 ≤ op ∧ op < 15
  · obtain ⟨k, rfl⟩ := Int.eq_ofNat_of_zero_le h.1
    have h : k = 0 ∨ k = 1 ∨ k = 2 ∨ k = 3 ∨ k = 4 ∨ k = 5 ∨ k = 6 ∨ k = 7 ∨ k = 8 ∨ k = 9 ∨ k = 10 ∨ k = 11 ∨ k = 12 ∨ k = 13 ∨ k = 14 := by omega
    rcases h with rfl | rfl | rfl | rfl | rfl | rfl | rfl | rfl | rfl | rfl | rfl | rfl | rfl | rfl | rfl <;> rfl
  · have h' : op < 0 ∨ 15 ≤ op := by omega
    rw [show decide (1 ≤ op ∧ op ≤ 14 ∧ op ≠ 12 ∧ op ≠ 13) = false by rw [decide_eq_false_iff_not]; omega]
    have := ins_none h'
    unfold insV at this
    injection this with this
    have := congrArg (fun a => a[1]?) this
    simpa using this
set_option maxHeartbeats 1000000 in
theorem l7Makes_any (op : Int) (w : World) : Calls Tryd.prog 52 #[.int .i64 op] w fun e w' => e = .returned (.bool (iMakes op)) ∧ w = w' := by
  rw [iMakes_eq]
  have CI := uIn_any op 1 14
  by_cases h1 : 1 ≤ op ∧ op ≤ 14
  · rw [show decide (1 ≤ op ∧ op ≤ 14) = true by simpa using h1] at CI
    replace CI := fun w => Lib.hid (CI w)
    by_cases h2 : op = 12
    · have q1 : (op == 12) = true := by simpa using h2
      have q2 : (op != 12) = false := by rw [bne, q1]; rfl
      have HV := Lib.hid (show decide (1 ≤ op ∧ op ≤ 14 ∧ op ≠ 12 ∧ op ≠ 13) = false by rw [decide_eq_false_iff_not]; omega)
      clear h1 h2
      go_enter Tryd.func52, Tryd.ntmps52
      go_wp2_with (go_at_call 42; (with_reducible refine Calls.mono (CI _).out ?_); rintro ee w1 ⟨rfl, rfl⟩)
      go_ret
      exact ⟨ret_bool HV.out.symm, rfl⟩
    · have q1 : (op == 12) = false := by simpa using h2
      have q2 : (op != 12) = true := by rw [bne, q1]; rfl
      by_cases h3 : op = 13
      · have q3 : (op == 13) = true := by simpa using h3
        have q4 : (op != 13) = false := by rw [bne, q3]; rfl
        have HV := Lib.hid (show decide (1 ≤ op ∧ op ≤ 14 ∧ op ≠ 12 ∧ op ≠ 13) = false by rw [decide_eq_false_iff_not]; omega)
        clear h1 h2 h3
        go_enter Tryd.func52, Tryd.ntmps52
        go_wp2_with (go_at_call 42; (with_reducible refine Calls.mono (CI _).out ?_); rintro ee w1 ⟨rfl, rfl⟩)
        go_ret
        exact ⟨ret_bool HV.out.symm, rfl⟩
      · have q3 : (op == 13) = false := by simpa using h3
        have q4 : (op != 13) = true := by rw [bne, q3]; rfl
        have HV := Lib.hid (show decide (1 ≤ op ∧ op ≤ 14 ∧ op ≠ 12 ∧ op ≠ 13) = true by rw [decide_eq_true_eq]; omega)
        clear h1 h2 h3
        go_enter Tryd.func52, Tryd.ntmps52
        go_wp2_with (go_at_call 42; (with_reducible refine Calls.mono (CI _).out ?_); rintro ee w1 ⟨rfl, rfl⟩)
        go_ret
        exact ⟨ret_bool HV.out.symm, rfl⟩
  · rw [show decide (1 ≤ op ∧ op ≤ 14) = false by simpa using h1] at CI
    replace CI := fun w => Lib.hid (CI w)
    have HV := Lib.hid (show decide (1 ≤ op ∧ op ≤ 14 ∧ op ≠ 12 ∧ op ≠ 13) = false by rw [decide_eq_false_iff_not]; omega)
    clear h1
    go_enter Tryd.func52, Tryd.ntmps52
    go_wp2_with (go_at_call 42; (with_reducible refine Calls.mono (CI _).out ?_); rintro ee w1 ⟨rfl, rfl⟩)
    go_ret
    exact ⟨ret_bool HV.out.symm, rfl⟩
end Go.Proofs.YtomhomnibikceaaDoor
