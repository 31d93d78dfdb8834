/-
  Forms of statements: the program's table, what it asks.
-/
import Derived.Test.YtljdbjfbcjigaaaGreatDoorMg21
namespace Go.Proofs.YtljdbjfbcjigaaaGreatDoor
open Go.RowKit
set_option maxRecDepth 100000

def fmKeyL : List (List UInt8) := [[108, 101, 116], [], [115, 97, 121], [112, 117, 116], [105, 102], [108, 111, 111, 112], [98, 97, 99, 107], [100, 111]]
/-- The key of an Op; what its form has. -/
def fKey (op : Int) : ByteArray := ⟨(fmKeyL.getD (op - 1).toNat []).toArray⟩
def nmdB (op : Int) : Bool := decide (op = 1 ∨ op = 2)
def clB (op : Int) : Bool := decide (op = 8)
def wbB (op : Int) : Bool := decide (op = 5 ∨ op = 6)
def weB (op : Int) : Bool := decide (op = 5)
def fmRow (op : Int) : List Value := [.int .i64 op, .string (fKey op), .bool (nmdB op), .int .i64 (argN op : Int), .bool (clB op), .bool (wbB op), .bool (weB op)]
def formV (op : Int) : Value := .agg #[.int .i64 op, .string (fKey op), .bool (nmdB op), .int .i64 (argN op : Int), .bool (clB op), .bool (wbB op), .bool (weB op)]
def form0 : Value := .agg #[.int .i64 0, .string ⟨#[]⟩, .bool false, .int .i64 0, .bool false, .bool false, .bool false]
def fmCells : List Value := fmRow 1 ++ fmRow 2 ++ fmRow 3 ++ fmRow 4 ++ fmRow 5 ++ fmRow 6 ++ fmRow 7 ++ fmRow 8
def fmTab : Value := .agg fmCells.toArray
/-- The program's table of forms stands in the world. -/
structure Fms (w : World) : Prop where
  row : ∃ t fr, w.heap[5]? = some (.cells fmCells.toArray t fr)
theorem Fms.below {w w' : World} (T : Fms w) (hb : Below w.heap.size w w') : Fms w' := by
  obtain ⟨t, fr, h⟩ := T.row
  exact ⟨t, fr, by rw [hb.block _ (Array.getElem?_eq_some_iff.1 h).1]; exact h⟩
theorem fmTab_at (k : Nat) (hk : k < 8) (w : World) : (Instr.index 310 fmTab (.int .i64 (k : Int))).run Tryz.prog w = .ok (.agg (fmRow ((k + 1 : Nat) : Int)).toArray) w := by
  have h : k = 0 ∨ k = 1 ∨ k = 2 ∨ k = 3 ∨ k = 4 ∨ k = 5 ∨ k = 6 ∨ k = 7 := by omega
  rcases h with rfl | rfl | rfl | rfl | rfl | rfl | rfl | rfl <;> (show _ = _; kernel_rfl)
def FormRet (op : Int) (w : World) (e : Ending) (w' : World) : Prop := e = .returned (.tuple #[if 1 ≤ op ∧ op ≤ 8 then formV op else form0, .bool (decide (1 ≤ op ∧ op ≤ 8))]) ∧ Below w.heap.size w w'
theorem Below.sets7 {B : Nat} {w w' : World} {n : Nat} (h : Below B w w') (hn : B ≤ n) (v0 v1 v2 v3 v4 v5 v6 : Value) :
    Below B w (((((((w'.setCell ⟨n, 0, none⟩ v0).setCell ⟨n, 1, none⟩ v1).setCell ⟨n, 2, none⟩ v2).setCell ⟨n, 3, none⟩ v3).setCell ⟨n, 4, none⟩ v4).setCell ⟨n, 5, none⟩ v5).setCell ⟨n, 6, none⟩ v6) :=
  ((((((h.setCell (p := ⟨n, 0, none⟩) hn _).setCell (p := ⟨n, 1, none⟩) hn _).setCell (p := ⟨n, 2, none⟩) hn _).setCell (p := ⟨n, 3, none⟩) hn _).setCell (p := ⟨n, 4, none⟩) hn _).setCell (p := ⟨n, 5, none⟩) hn _).setCell (p := ⟨n, 6, none⟩) hn _
set_option maxHeartbeats 2000000 in
theorem formOf_any (op : Int) (w : World) (T : Fms w) : Calls Tryz.prog 212 #[.int .i64 op] w (FormRet op w) := by
  obtain ⟨t, fr, hk0⟩ := T.row
  clear T
  have B0 := Lib.hid (BxL.new w [.int .i64 0, .string ⟨#[]⟩, .bool false, .int .i64 0, .bool false, .bool false, .bool false] 282)
  have F0 := Lib.hid (show Free (w.alloc (.cells #[.int .i64 0, .string ⟨#[]⟩, .bool false, .int .i64 0, .bool false, .bool false, .bool false] 282)) w.heap.size from fun o => alloc_frozen _ _ _ o)
  have hlt : w.heap.size < (w.alloc (.cells #[.int .i64 0, .string ⟨#[]⟩, .bool false, .int .i64 0, .bool false, .bool false, .bool false] 282)).heap.size := by rw [World.size_alloc]; omega
  have hb0 : Below w.heap.size w (w.alloc (.cells #[.int .i64 0, .string ⟨#[]⟩, .bool false, .int .i64 0, .bool false, .bool false, .bool false] 282)) := (Below.refl _ _).alloc (Nat.le_refl _) _
  have hk : (w.alloc (.cells #[.int .i64 0, .string ⟨#[]⟩, .bool false, .int .i64 0, .bool false, .bool false, .bool false] 282)).heap[5]? = some (.cells fmCells.toArray t fr) := by rw [hb0.block _ (Array.getElem?_eq_some_iff.1 hk0).1]; exact hk0
  clear hk0
  have e0 : w.alloc (.cells [.int .i64 0, .string ⟨#[]⟩, .bool false, .int .i64 0, .bool false, .bool false, .bool false].toArray 282) = w.alloc (.cells #[.int .i64 0, .string ⟨#[]⟩, .bool false, .int .i64 0, .bool false, .bool false, .bool false] 282) := rfl
  rw [e0] at B0
  clear e0
  go_enter Tryz.func212, Tryz.ntmps212
  go_upto_region 1 with (fail)
  generalize w.alloc (.cells #[.int .i64 0, .string ⟨#[]⟩, .bool false, .int .i64 0, .bool false, .bool false, .bool false] 282) = wa at *
  go_wp2_with (with_reducible refine wpList_load_row rfl _ _ rfl _ rfl _ _ _ _ hk Tryz.underlying310 rfl (by kernel_rfl) ?_)
  clear hk
  have hidx := fmTab_at
  unfold fmTab at hidx
  generalize Value.agg fmCells.toArray = KT at *
  have HI := Lib.hid hidx
  clear hidx
  go_loopw [7] (fun i wr => ∃ k : Nat, k ≤ 8 ∧ i = .int .i64 k ∧ (∀ j : Nat, j < k → op ≠ (j + 1 : Nat)) ∧ Below wa.heap.size wa wr) (fun i _ => 8 - (intOf i).toNat)
  case atStart => exact ⟨0, Nat.zero_le _, rfl, fun j hj => absurd hj (by omega), Below.refl _ _⟩
  case round =>
    obtain ⟨k, hk, rfl, hno, hb⟩ := hrel
    have HN := Lib.hid hno
    clear hno
    have hbs := hb.size
    have hbw := hb0.trans (hb.mono (Nat.le_of_lt hlt))
    have hltr := Nat.lt_of_lt_of_le hlt hbs
    by_cases hlt8 : k < 8
    · have hi := HI.out k hlt8 wr
      unfold fmRow at hi
      by_cases he : op = (k + 1 : Nat)
      · rw [← he] at hi
        have q1 : (op == op) = true := by simp
        have BR := Lib.hid (B0.out.below hb hlt)
        have FR := Lib.hid (F0.out.below hb hlt)
        have HV := Lib.hid (show (1 ≤ op ∧ op ≤ 8) by omega)
        clear he HN B0 F0 hb0 hb HI
        generalize hq1 : fKey op = key at *
        generalize hq2 : nmdB op = nm at *
        generalize hq3 : (argN op : Int) = ar at *
        generalize hq4 : clB op = cl at *
        generalize hq5 : wbB op = wb at *
        generalize hq6 : weB op = we at *
        have HQ := Lib.hid (And.intro hq1 (And.intro hq2 (And.intro hq3 (And.intro hq4 (And.intro hq5 hq6)))))
        clear hq1 hq2 hq3 hq4 hq5 hq6
        have hal := (Below.refl wr.heap.size wr).alloc (Nat.le_refl _) (.cells #[.int .i64 op, .string key, .bool nm, .int .i64 ar, .bool cl, .bool wb, .bool we] 282)
        have BF := Lib.hid (BxL.new wr [.int .i64 op, .string key, .bool nm, .int .i64 ar, .bool cl, .bool wb, .bool we] 282)
        have e1 : wr.alloc (.cells [.int .i64 op, .string key, .bool nm, .int .i64 ar, .bool cl, .bool wb, .bool we].toArray 282) = wr.alloc (.cells #[.int .i64 op, .string key, .bool nm, .int .i64 ar, .bool cl, .bool wb, .bool we] 282) := rfl
        rw [e1] at BF
        clear e1
        have BA := Lib.hid (BR.out.below hal hltr)
        have FA := Lib.hid (FR.out.below hal hltr)
        have HBA := Lib.hid (hbw.trans (hal.mono hbw.size))
        clear hbw hal BR FR
        go_upto_region 4 with (fail)
        generalize wr.alloc (.cells #[.int .i64 op, .string key, .bool nm, .int .i64 ar, .bool cl, .bool wb, .bool we] 282) = wx at *
        have d0 := BA.out 0 _ rfl
        have d1 := BA.out 1 _ rfl
        have d2 := BA.out 2 _ rfl
        have d3 := BA.out 3 _ rfl
        have d4 := BA.out 4 _ rfl
        have d5 := BA.out 5 _ rfl
        have d6 := BA.out 6 _ rfl
        have f0 := FA.out 0
        have f1 := FA.out 1
        have f2 := FA.out 2
        have f3 := FA.out 3
        have f4 := FA.out 4
        have f5 := FA.out 5
        have f6 := FA.out 6
        have x0 := BF.out 0 _ rfl
        have x1 := BF.out 1 _ rfl
        have x2 := BF.out 2 _ rfl
        have x3 := BF.out 3 _ rfl
        have x4 := BF.out 4 _ rfl
        have x5 := BF.out 5 _ rfl
        have x6 := BF.out 6 _ rfl
        go_wp2_with fail
        refine bodyPost_ret (v := .tuple #[.agg #[.int .i64 op, .string key, .bool nm, .int .i64 ar, .bool cl, .bool wb, .bool we], .bool true]) (by simp [results, Tryz.results212, go_sem, d0, d1, d2, d3, d4, d5, d6]) rfl ⟨?_, ?_⟩
        · rw [if_pos HV.out, decide_eq_true HV.out]
          obtain ⟨h1, h2, h3, h4, h5, h6⟩ := HQ.out
          unfold formV
          rw [h1, h2, h3, h4, h5, h6]
        · exact Below.sets7 HBA.out (Nat.le_refl _) _ _ _ _ _ _ _
      · have q1 : (((k + 1 : Nat) : Int) == op) = false := by rw [beq_eq_false_iff_ne]; exact fun e => he e.symm
        have HE := Lib.hid he
        clear he
        generalize hko : ((k + 1 : Nat) : Int) = o at *
        have HKO := Lib.hid hko
        clear hko
        generalize fKey o = key at *
        generalize nmdB o = nm at *
        generalize (argN o : Int) = ar at *
        generalize clB o = cl at *
        generalize wbB o = wb at *
        generalize weB o = we at *
        go_wp2
        go_roundw
        case rel => exact ⟨k + 1, by omega, by go_num, fun j hj => by
          by_cases e : j = k
          · subst e; rw [HKO.out]; exact HE.out
          · exact HN.out j (by omega), hb.alloc hbs _⟩
        case measure => simp only [intOf]; omega
    · obtain rfl : k = 8 := by omega
      have HV := Lib.hid (show ¬ (1 ≤ op ∧ op ≤ 8) from fun ⟨h1, h2⟩ => HN.out (op - 1).toNat (by omega) (by omega))
      have BA := Lib.hid (B0.out.below hb hlt)
      have FA := Lib.hid (F0.out.below hb hlt)
      have HBA := Lib.hid hbw
      clear HN B0 F0 hb0 hb hbw HI
      have d0 := BA.out 0 _ rfl
      have d1 := BA.out 1 _ rfl
      have d2 := BA.out 2 _ rfl
      have d3 := BA.out 3 _ rfl
      have d4 := BA.out 4 _ rfl
      have d5 := BA.out 5 _ rfl
      have d6 := BA.out 6 _ rfl
      have f0 := FA.out 0
      have f1 := FA.out 1
      have f2 := FA.out 2
      have f3 := FA.out 3
      have f4 := FA.out 4
      have f5 := FA.out 5
      have f6 := FA.out 6
      go_wp2_with fail
      refine bodyPost_ret (v := .tuple #[form0, .bool false]) (by simp [form0, results, Tryz.results212, go_sem, d0, d1, d2, d3, d4, d5, d6]) rfl ⟨?_, ?_⟩
      · rw [if_neg HV.out, decide_eq_false HV.out]
      · exact Below.sets7 HBA.out (Nat.le_refl _) _ _ _ _ _ _ _
end Go.Proofs.YtljdbjfbcjigaaaGreatDoor
