/-
  Which expressions are valid: the model's tests; parts counted; ExprValid of both.
-/
import Derived.Test.YtkhcfhhejmkikaaGreatDoorMg5
import Derived.Deep.RegionWith
import Derived.Deep.RegionHeld3
import Derived.Deep.DeepCutAuto
import Derived.Deep.CutBlock
namespace Go.Proofs.YtkhcfhhejmkikaaGreatDoor
open Go.RowKit
set_option maxRecDepth 100000

/-- An op that has a sign, as cells. -/
def sgRow (k : Nat) : List Value := [.int .i64 (k + 3 : Nat), .string (sgnS (k + 3 : Nat)), .int .i64 (lvl (k + 3 : Nat) : Int)]
def sgCells : List Value := sgRow 0 ++ sgRow 1 ++ sgRow 2 ++ sgRow 3 ++ sgRow 4 ++ sgRow 5 ++ sgRow 6 ++ sgRow 7 ++ sgRow 8 ++ sgRow 9
def sgTab : Value := .agg sgCells.toArray
/-- The program's table of ops stands in the world. -/
structure Sgn (w : World) : Prop where
  row : ∃ t fr, w.heap[0]? = some (.cells sgCells.toArray t fr)
theorem Sgn.below {w w' : World} (T : Sgn w) (hb : Below w.heap.size w w') : Sgn w' := by
  obtain ⟨t, fr, h⟩ := T.row
  exact ⟨t, fr, by rw [hb.block _ (Array.getElem?_eq_some_iff.1 h).1]; exact h⟩
/-- The kind of an op, as a value. -/
def kindV (op : Int) : Value :=
  if op = 1 then .iface 94 (.agg #[])
  else if op = 2 then .iface 96 (.agg #[])
  else if op = 13 then .iface 103 (.agg #[])
  else if op = 11 ∨ op = 12 then .iface 102 (.agg (sgRow (op - 3).toNat).toArray)
  else if 3 ≤ op ∧ op ≤ 10 then .iface 100 (.agg (sgRow (op - 3).toNat).toArray)
  else .iface 142 (.agg #[])
theorem sgTab_at (k : Nat) (hk : k < 10) (w : World) : (Instr.index 141 sgTab (.int .i64 (k : Int))).run Tryz.prog w = .ok (.agg (sgRow k).toArray) w := by
  have h : k = 0 ∨ k = 1 ∨ k = 2 ∨ k = 3 ∨ k = 4 ∨ k = 5 ∨ k = 6 ∨ k = 7 ∨ k = 8 ∨ k = 9 := by omega
  rcases h with rfl | rfl | rfl | rfl | rfl | rfl | rfl | rfl | rfl | rfl <;> (show _ = _; kernel_rfl)

theorem kindV_at (k : Nat) (hk : k < 10) : kindV (k + 3 : Nat) = if lvl (k + 3 : Nat) = 5 then .iface 102 (.agg #[.int .i64 (k + 3 : Nat), .string (sgnS (k + 3 : Nat)), .int .i64 (lvl (k + 3 : Nat) : Int)]) else .iface 100 (.agg #[.int .i64 (k + 3 : Nat), .string (sgnS (k + 3 : Nat)), .int .i64 (lvl (k + 3 : Nat) : Int)]) := by
  have h : k = 0 ∨ k = 1 ∨ k = 2 ∨ k = 3 ∨ k = 4 ∨ k = 5 ∨ k = 6 ∨ k = 7 ∨ k = 8 ∨ k = 9 := by omega
  rcases h with rfl | rfl | rfl | rfl | rfl | rfl | rfl | rfl | rfl | rfl <;> rfl
set_option maxHeartbeats 1000000 in
theorem kindOf_first (op : Int) (w : World) (h : op = 1 ∨ op = 2 ∨ op = 13) :
    Calls Tryz.prog 70 #[.int .i64 op] w fun e w' => e = .returned (kindV op) ∧ w = w' := by
  rcases h with rfl | rfl | rfl
  all_goals
    go_enter Tryz.func70, Tryz.ntmps70
    go_wp2
    go_ret
    exact ⟨rfl, rfl⟩
set_option maxHeartbeats 1000000 in
theorem kindOf_rest (op : Int) (w : World) (h : ¬ (op = 1 ∨ op = 2 ∨ op = 13)) (T : Sgn w) :
    Calls Tryz.prog 70 #[.int .i64 op] w fun e w' => e = .returned (kindV op) ∧ Below w.heap.size w w' := by
  obtain ⟨t, fr, hk⟩ := T.row
  clear T
  have b1 : (op == 1) = false := by rw [beq_eq_false_iff_ne]; omega
  have b2 : (op == 2) = false := by rw [beq_eq_false_iff_ne]; omega
  have b3 : (op == 13) = false := by rw [beq_eq_false_iff_ne]; omega
  have HH := Lib.hid h
  clear h
  go_enter Tryz.func70, Tryz.ntmps70
  go_wp2_with (with_reducible refine wpList_load_row rfl _ _ rfl _ rfl _ _ _ _ hk Tryz.underlying141 rfl (by kernel_rfl) ?_)
  clear hk
  have hidx := sgTab_at
  unfold sgTab at hidx
  generalize Value.agg sgCells.toArray = KT at *
  have HI := Lib.hid hidx
  clear hidx
  clear b1 b2 b3
  go_loopw [19] (fun i wr => ∃ k : Nat, k ≤ 10 ∧ i = .int .i64 k ∧ (∀ j : Nat, j < k → op ≠ (j + 3 : Nat)) ∧ Below w.heap.size w wr) (fun i _ => 10 - (intOf i).toNat)
  case atStart => exact ⟨0, Nat.zero_le _, rfl, fun j hj => absurd hj (by omega), Below.refl _ _⟩
  case round =>
    obtain ⟨k, hk, rfl, hno, hb⟩ := hrel
    have HN := Lib.hid hno
    clear hno
    have hbs := hb.size
    by_cases hlt : k < 10
    · have hi := HI.out k hlt wr
      have HK := Lib.hid (show k + 3 = k + 3 from rfl)
      by_cases he : op = (k + 3 : Nat)
      · have HV := kindV_at k hlt
        unfold sgRow at hi
        rw [← he] at hi HV
        have q1 : (op == op) = true := by simp
        have q2 : (op != op) = false := by simp
        clear he HK HN
        by_cases h5 : lvl op = 5
        · have q3 : ((lvl op : Int) == 5) = true := by rw [beq_iff_eq]; omega
          rw [if_pos h5] at HV
          replace HV := Lib.hid HV
          clear h5
          go_wp2
          go_ret
          exact ⟨by rw [HV.out]; rfl, hb.alloc hbs _⟩
        · have q3 : ((lvl op : Int) == 5) = false := by rw [beq_eq_false_iff_ne]; omega
          rw [if_neg h5] at HV
          replace HV := Lib.hid HV
          clear h5
          go_wp2
          go_ret
          exact ⟨by rw [HV.out]; rfl, hb.alloc hbs _⟩
      · have q1 : (((k + 3 : Nat) : Int) == op) = false := by rw [beq_eq_false_iff_ne]; exact fun e => he e.symm
        have q2 : (((k + 3 : Nat) : Int) != op) = true := by rw [bne, q1]; rfl
        have HE := Lib.hid he
        unfold sgRow at hi
        clear he
        generalize hko : ((k + 3 : Nat) : Int) = o at *
        have HKO := Lib.hid hko
        clear hko
        generalize (lvl o : Int) = l at *
        generalize sgnS o = sg at *
        go_wp2
        go_roundw
        case rel => exact ⟨k + 1, by omega, by go_num, fun j hj => by
          by_cases e : j = k
          · subst e; rw [HKO.out]; exact HE.out
          · exact HN.out j (by omega), hb.alloc hbs _⟩
        case measure => simp only [intOf]; omega
    · obtain rfl : k = 10 := by omega
      have HV : kindV op = .iface 142 (.agg #[]) := by
        have h3 : ¬ (3 ≤ op ∧ op ≤ 12) := by
          rintro ⟨h1, h2⟩
          exact HN.out (op - 3).toNat (by omega) (by omega)
        unfold kindV
        have := HH.out
        rw [if_neg (by omega), if_neg (by omega), if_neg (by omega), if_neg (by omega), if_neg (by omega)]
      replace HV := Lib.hid HV
      go_wp2
      go_ret
      exact ⟨by rw [HV.out]; rfl, hb⟩
theorem kindOf_any (op : Int) (w : World) (T : Sgn w) :
    Calls Tryz.prog 70 #[.int .i64 op] w fun e w' => e = .returned (kindV op) ∧ Below w.heap.size w w' := by
  by_cases h : op = 1 ∨ op = 2 ∨ op = 13
  · exact (kindOf_first op w h).mono fun e w' ⟨h1, h2⟩ => ⟨h1, by subst h2; exact Below.refl _ _⟩
  · exact kindOf_rest op w h T

/-- A string that is not empty, in the walk's spellings. -/
theorem full_str {s : ByteArray} (h : s ≠ ⟨#[]⟩) : s.toList.isEmpty = false ∧ (!s.toList.isEmpty) = true := by
  have e1 : s.toList.isEmpty = false := by
    rw [ByteArray.toList_eq, List.isEmpty_eq_false_iff]
    intro e
    apply h
    cases s with | mk d =>
    have : d.toList = [] := e
    rw [Array.toList_eq_nil_iff] at this
    rw [this]
  exact ⟨e1, by rw [e1]; rfl⟩
theorem fitB_num (n : Int) (s : ByteArray) (len : Nat) : fitB 1 n s len = decide (0 ≤ n ∧ n ≤ 255 ∧ s.size = 0 ∧ len = 0) := by unfold fitB; rw [if_pos rfl]
theorem fitB_var (n : Int) (s : ByteArray) (len : Nat) : fitB 2 n s len = (decide (n = 0 ∧ len = 0) && nameB s) := by unfold fitB; rw [if_neg (by decide), if_pos rfl]
theorem fitB_call (n : Int) (s : ByteArray) (len : Nat) : fitB 13 n s len = (decide (n = 0 ∧ len ≤ 3) && nameB s) := by unfold fitB; rw [if_neg (by decide), if_neg (by decide), if_pos rfl]
theorem fitB_un {op : Int} (h : op = 11 ∨ op = 12) (n : Int) (s : ByteArray) (len : Nat) : fitB op n s len = decide (n = 0 ∧ s.size = 0 ∧ len = 1) := by unfold fitB; rw [if_neg (by omega), if_neg (by omega), if_neg (by omega), if_pos h]
theorem fitB_bin {op : Int} (h : 3 ≤ op ∧ op ≤ 10) (n : Int) (s : ByteArray) (len : Nat) : fitB op n s len = decide (n = 0 ∧ s.size = 0 ∧ len = 2) := by unfold fitB; rw [if_neg (by omega), if_neg (by omega), if_neg (by omega), if_neg (by omega), if_pos h]
theorem fitB_no {op : Int} (h : ¬ (1 ≤ op ∧ op ≤ 13)) (n : Int) (s : ByteArray) (len : Nat) : fitB op n s len = false := by unfold fitB; rw [if_neg (by omega), if_neg (by omega), if_neg (by omega), if_neg (by omega), if_neg (by omega)]
set_option maxHeartbeats 1000000 in
theorem fits_number (n : Int) (s : ByteArray) (op : Int) (A : Option Addr) (len cap : Nat) (w : World) (_ : len ≤ 9223372036854775807) :
    Calls Tryz.prog 161 #[.agg #[], .agg #[.int .i64 op, .int .i64 n, .string s, .slice A len cap]] w (BoolB (fitB 1 n s len) w) := by
  by_cases h0 : 0 ≤ n
  · by_cases h1 : n ≤ 255
    · by_cases h2 : s = ⟨#[]⟩
      · subst h2
        go_enter Tryz.func161, Tryz.ntmps161
        go_wp2
        go_ret
        exact ⟨ret_bool (by rw [fitB_num]; have hz : (⟨#[]⟩ : ByteArray).size = 0 := rfl; rw [Bool.eq_iff_iff, beq_iff_eq, decide_eq_true_eq]; omega), two_boxes _ _ _⟩
      · obtain ⟨e1, e2⟩ := full_str h2
        have HH := Lib.hid h2
        clear h2
        go_enter Tryz.func161, Tryz.ntmps161
        go_wp2
        go_ret
        exact ⟨ret_bool (by rw [fitB_num, eq_comm, decide_eq_false_iff_not]; exact fun h => HH.out (size_zero h.2.2.1)), two_boxes _ _ _⟩
    · have h1' : 255 < n := by omega
      go_enter Tryz.func161, Tryz.ntmps161
      go_wp2
      go_ret
      exact ⟨ret_bool (by rw [fitB_num, eq_comm, decide_eq_false_iff_not]; omega), two_boxes _ _ _⟩
  · have h0' : n < 0 := by omega
    go_enter Tryz.func161, Tryz.ntmps161
    go_wp2
    go_ret
    exact ⟨ret_bool (by rw [fitB_num, eq_comm, decide_eq_false_iff_not]; omega), two_boxes _ _ _⟩
set_option maxHeartbeats 1000000 in
theorem fits_variable (n : Int) (s : ByteArray) (op : Int) (A : Option Addr) (len cap : Nat) (w : World) (T : Tabs w) :
    Calls Tryz.prog 163 #[.agg #[], .agg #[.int .i64 op, .int .i64 n, .string s, .slice A len cap]] w (BoolB (fitB 2 n s len) w) := by
  have hb := two_boxes w (.cells #[] 96) (.cells #[.int .i64 op, .int .i64 n, .string s, .slice A len cap] 24)
  by_cases h0 : n = 0
  · subst h0
    have CN := Lib.hid (implIsName_any s _ (T.below hb))
    have HF := Lib.hid (fitB_var 0 s len)
    clear T
    generalize nameB s = b at *
    cases b
    all_goals
      go_enter Tryz.func163, Tryz.ntmps163
      go_wp2_with fail
      refine CN.out.mono ?_
      rintro e w' ⟨rfl, rfl⟩
      go_wp2
      go_ret
      exact ⟨ret_bool (by rw [HF.out, Bool.eq_iff_iff]; simp <;> omega), hb⟩
  · have b1 := beq_no h0
    have HH := Lib.hid h0
    clear h0 T
    go_enter Tryz.func163, Tryz.ntmps163
    go_wp2
    go_ret
    exact ⟨ret_bool (by rw [fitB_var]; simp [HH.out]), hb⟩
set_option maxHeartbeats 1000000 in
theorem fits_call (n : Int) (s : ByteArray) (op : Int) (A : Option Addr) (len cap : Nat) (w : World) (_ : len ≤ 9223372036854775807) (T : Tabs w) :
    Calls Tryz.prog 168 #[.agg #[], .agg #[.int .i64 op, .int .i64 n, .string s, .slice A len cap]] w (BoolB (fitB 13 n s len) w) := by
  have hb := two_boxes w (.cells #[] 103) (.cells #[.int .i64 op, .int .i64 n, .string s, .slice A len cap] 24)
  by_cases h0 : n = 0
  · subst h0
    have CN := Lib.hid (implIsName_any s _ (T.below hb))
    have HF := Lib.hid (fitB_call 0 s len)
    clear T
    generalize nameB s = b at *
    cases b
    all_goals
      go_enter Tryz.func168, Tryz.ntmps168
      go_wp2_with fail
      refine CN.out.mono ?_
      rintro e w' ⟨rfl, rfl⟩
      go_wp2
      go_ret
      exact ⟨ret_bool (by rw [HF.out, Bool.eq_iff_iff]; simp <;> omega), hb⟩
  · have b1 := beq_no h0
    have HH := Lib.hid h0
    clear h0 T
    go_enter Tryz.func168, Tryz.ntmps168
    go_wp2
    go_ret
    exact ⟨ret_bool (by rw [fitB_call]; simp [HH.out]), hb⟩
set_option maxHeartbeats 1000000 in
theorem fits_ahead (z l : Int) (sg : ByteArray) (n : Int) (s : ByteArray) (op : Int) (A : Option Addr) (len cap : Nat) (w : World) (_ : len ≤ 9223372036854775807) (ho : op = 11 ∨ op = 12) :
    Calls Tryz.prog 166 #[.agg #[.int .i64 z, .string sg, .int .i64 l], .agg #[.int .i64 op, .int .i64 n, .string s, .slice A len cap]] w (BoolB (fitB op n s len) w) := by
  have hb := two_boxes w (.cells #[.int .i64 z, .string sg, .int .i64 l] 102) (.cells #[.int .i64 op, .int .i64 n, .string s, .slice A len cap] 24)
  have HF := Lib.hid (fitB_un ho n s len)
  clear ho
  generalize fitB op n s len = b at *
  by_cases h0 : n = 0
  · subst h0
    by_cases h2 : s = ⟨#[]⟩
    · subst h2
      go_enter Tryz.func166, Tryz.ntmps166
      go_wp2
      go_ret
      exact ⟨ret_bool (by rw [HF.out]; have hz : (⟨#[]⟩ : ByteArray).size = 0 := rfl; rw [Bool.eq_iff_iff, beq_iff_eq, decide_eq_true_eq]; exact ⟨fun h => ⟨by trivial, hz, by omega⟩, fun h => by have := h.2.2; omega⟩), hb⟩
    · obtain ⟨e1, e2⟩ := full_str h2
      have HH := Lib.hid h2
      clear h2
      go_enter Tryz.func166, Tryz.ntmps166
      go_wp2
      go_ret
      exact ⟨ret_bool (by rw [HF.out, eq_comm, decide_eq_false_iff_not]; exact fun h => HH.out (size_zero h.2.1)), hb⟩
  · have b1 := beq_no h0
    have HH := Lib.hid h0
    clear h0
    go_enter Tryz.func166, Tryz.ntmps166
    go_wp2
    go_ret
    exact ⟨ret_bool (by rw [HF.out, eq_comm, decide_eq_false_iff_not]; exact fun h => HH.out h.1), hb⟩
set_option maxHeartbeats 1000000 in
theorem fits_between (z l : Int) (sg : ByteArray) (n : Int) (s : ByteArray) (op : Int) (A : Option Addr) (len cap : Nat) (w : World) (_ : len ≤ 9223372036854775807) (ho : 3 ≤ op ∧ op ≤ 10) :
    Calls Tryz.prog 165 #[.agg #[.int .i64 z, .string sg, .int .i64 l], .agg #[.int .i64 op, .int .i64 n, .string s, .slice A len cap]] w (BoolB (fitB op n s len) w) := by
  have hb := two_boxes w (.cells #[.int .i64 z, .string sg, .int .i64 l] 100) (.cells #[.int .i64 op, .int .i64 n, .string s, .slice A len cap] 24)
  have HF := Lib.hid (fitB_bin ho n s len)
  clear ho
  generalize fitB op n s len = b at *
  by_cases h0 : n = 0
  · subst h0
    by_cases h2 : s = ⟨#[]⟩
    · subst h2
      go_enter Tryz.func165, Tryz.ntmps165
      go_wp2
      go_ret
      exact ⟨ret_bool (by rw [HF.out]; have hz : (⟨#[]⟩ : ByteArray).size = 0 := rfl; rw [Bool.eq_iff_iff, beq_iff_eq, decide_eq_true_eq]; exact ⟨fun h => ⟨by trivial, hz, by omega⟩, fun h => by have := h.2.2; omega⟩), hb⟩
    · obtain ⟨e1, e2⟩ := full_str h2
      have HH := Lib.hid h2
      clear h2
      go_enter Tryz.func165, Tryz.ntmps165
      go_wp2
      go_ret
      exact ⟨ret_bool (by rw [HF.out, eq_comm, decide_eq_false_iff_not]; exact fun h => HH.out (size_zero h.2.1)), hb⟩
  · have b1 := beq_no h0
    have HH := Lib.hid h0
    clear h0
    go_enter Tryz.func165, Tryz.ntmps165
    go_wp2
    go_ret
    exact ⟨ret_bool (by rw [HF.out, eq_comm, decide_eq_false_iff_not]; exact fun h => HH.out h.1), hb⟩
set_option maxHeartbeats 1000000 in
theorem fits_strange (n : Int) (s : ByteArray) (op : Int) (A : Option Addr) (len cap : Nat) (w : World) (ho : ¬ (1 ≤ op ∧ op ≤ 13)) :
    Calls Tryz.prog 171 #[.agg #[], .agg #[.int .i64 op, .int .i64 n, .string s, .slice A len cap]] w (BoolB (fitB op n s len) w) := by
  rw [fitB_no ho]
  clear ho
  go_enter Tryz.func171, Tryz.ntmps171
  go_wp2
  go_ret
  exact ⟨rfl, two_boxes _ _ _⟩
theorem kindV_un {op : Int} (h : op = 11 ∨ op = 12) : kindV op = .iface 102 (.agg #[.int .i64 op, .string (sgnS op), .int .i64 (lvl op : Int)]) := by
  rcases h with rfl | rfl <;> rfl
theorem kindV_bin {op : Int} (h : 3 ≤ op ∧ op ≤ 10) : kindV op = .iface 100 (.agg #[.int .i64 op, .string (sgnS op), .int .i64 (lvl op : Int)]) := by
  have : op = 3 ∨ op = 4 ∨ op = 5 ∨ op = 6 ∨ op = 7 ∨ op = 8 ∨ op = 9 ∨ op = 10 := by omega
  rcases this with rfl | rfl | rfl | rfl | rfl | rfl | rfl | rfl <;> rfl
theorem kindV_no {op : Int} (h : ¬ (1 ≤ op ∧ op ≤ 13)) : kindV op = .iface 142 (.agg #[]) := by
  unfold kindV
  rw [if_neg (by omega), if_neg (by omega), if_neg (by omega), if_neg (by omega), if_neg (by omega)]
end Go.Proofs.YtkhcfhhejmkikaaGreatDoor

namespace Go.Proofs.YtkhcfhhejmkikaaGreatDoor
open Go.RowKit
set_option maxRecDepth 100000

/-- Taking an op of a level, or none. -/
def TookO (R cap k l : Nat) (A : Option Addr) (ws : List W) (w : World) (ee : Ending) (w' : World) : Prop :=
  (∃ op : Int, 3 ≤ op ∧ op ≤ 12 ∧ ee = .returned (.tuple #[.int .i64 op, .bool true]) ∧ hitO l (ws.drop k) op = true ∧ (∀ j : Int, 3 ≤ j → j < op → hitO l (ws.drop k) j = false) ∧ Mv R w w' ∧ Cu w' R A cap ws (k + 1)) ∨
  (ee = .returned (.tuple #[.int .i64 0, .bool false]) ∧ (∀ j : Int, 3 ≤ j → j < 13 → hitO l (ws.drop k) j = false) ∧ Mv R w w' ∧ Cu w' R A cap ws k)
set_option maxHeartbeats 4000000 in
theorem takeOp_any (R cap k l : Nat) (A : Option Addr) (ws : List W) (w : World) (h : Cu w R A cap ws k) (hn : ws.length ≤ 600) (T : Sgn w) :
    Calls Tryz.prog 99 #[.pointer (some ⟨R, 0, none⟩), .int .i64 (l : Int)] w (TookO R cap k l A ws w) := by
  obtain ⟨t, fr, hk⟩ := T.row
  have HC := Lib.hid h
  have TT := fun s W hW => Lib.hid (takeText_any R cap k A ws s W hW hn)
  clear T h
  go_enter Tryz.func99, Tryz.ntmps99
  go_wp2_with (with_reducible refine wpList_load_row rfl _ _ rfl _ rfl _ _ _ _ hk Tryz.underlying141 rfl (by kernel_rfl) ?_)
  clear hk
  have hidx := sgTab_at
  unfold sgTab at hidx
  generalize Value.agg sgCells.toArray = KT at *
  have HI := Lib.hid hidx
  clear hidx
  go_loopw [9] (fun i wr => ∃ q : Nat, q ≤ 10 ∧ i = .int .i64 q ∧ (∀ j : Int, 3 ≤ j → j < q + 3 → hitO l (ws.drop k) j = false) ∧ Mv R w wr ∧ Cu wr R A cap ws k) (fun i _ => 10 - (intOf i).toNat)
  case atStart => exact ⟨0, Nat.zero_le _, rfl, fun j h1 h2 => by omega, ⟨Touch.refl _ _, fun _ _ => rfl⟩, HC.out⟩
  case round =>
    obtain ⟨q, hq, rfl, hno, hm, hc⟩ := hrel
    have HN := Lib.hid hno
    have HM := Lib.hid hm
    clear hno hm
    by_cases hlt : q < 10
    · have hi := HI.out q hlt wr
      unfold sgRow at hi
      have hop1 : ((q + 3 : Nat) : Int) = (q : Int) + 3 := by omega
      have HH := Lib.hid (show hitO l (ws.drop k) ((q + 3 : Nat) : Int) = (decide (lvl ((q + 3 : Nat) : Int) = l) && isT (ws.drop k) (sgnS ((q + 3 : Nat) : Int))) from rfl)
      have hal : Below wr.heap.size wr (wr.alloc (.cells #[.int .i64 ((q + 3 : Nat) : Int), .string (sgnS ((q + 3 : Nat) : Int)), .int .i64 ((lvl ((q + 3 : Nat) : Int) : Nat) : Int)] 98)) := (Below.refl _ _).alloc (Nat.le_refl _) _
      have HCA := Lib.hid (hc.below hal)
      have HMA := Lib.hid (HM.out.trans (Mv.of_below hal hc.lt))
      have TT1 := TT (sgnS ((q + 3 : Nat) : Int)) _ HCA.out
      have j0 : (wr.alloc (.cells #[.int .i64 ((q + 3 : Nat) : Int), .string (sgnS ((q + 3 : Nat) : Int)), .int .i64 ((lvl ((q + 3 : Nat) : Int) : Nat) : Int)] 98)).cell? ⟨wr.heap.size, 0, none⟩ = some (.int .i64 ((q + 3 : Nat) : Int)) := alloc_cell wr _ _ (0, 0) 0
      have hbl : R < wr.heap.size := hc.lt
      have hbz : wr.heap.size < (wr.alloc (.cells #[.int .i64 ((q + 3 : Nat) : Int), .string (sgnS ((q + 3 : Nat) : Int)), .int .i64 ((lvl ((q + 3 : Nat) : Int) : Nat) : Int)] 98)).heap.size := by rw [World.size_alloc]; omega
      have J0 := Lib.hid j0
      clear j0
      have hop3 : (3 : Int) ≤ ((q + 3 : Nat) : Int) := by omega
      have hop4 : ((q + 3 : Nat) : Int) ≤ 12 := by omega
      clear hal TT
      by_cases hl : lvl ((q + 3 : Nat) : Int) = l
      · rw [decide_eq_true hl, Bool.true_and] at HH
        have q1 : (((lvl ((q + 3 : Nat) : Int) : Nat) : Int) == (l : Int)) = true := beq_yes (by omega)
        clear hl
        generalize sgnS ((q + 3 : Nat) : Int) = s at *
        generalize lvl ((q + 3 : Nat) : Int) = lv at *
        generalize hg : ((q + 3 : Nat) : Int) = op at *
        have HG := Lib.hid hg
        clear hg hop1
        go_wp2_with fail
        (with_reducible refine Calls.mono TT1.out ?_)
        rintro ee w2 ⟨rfl, hm2, hc2⟩
        cases hb : isT (ws.drop k) s
        · rw [hb] at HH hc2
          have HF := Lib.hid HH.out
          have HM2 := Lib.hid (HMA.out.trans hm2)
          clear HMA hm2 HH hb
          go_wp2_with fail
          go_roundw
          case rel => exact ⟨q + 1, by omega, by go_num, fun j h1 h2 => by
            by_cases e : j = op
            · rw [e]; exact HF.out
            · have := HG.out; exact HN.out j h1 (by omega), HM2.out, hc2⟩
          case measure => simp only [intOf]; omega
        · rw [hb] at HH hc2
          have HF := Lib.hid HH.out
          have HM2 := Lib.hid (HMA.out.trans hm2)
          have j2 := (hm2.1.cell (o := 0) hbl hbz).trans J0.out
          clear HMA hm2 HH hb
          go_wp2_with fail
          go_ret2
          exact .inl ⟨op, hop3, hop4, rfl, HF.out, fun j h1 h2 => HN.out j h1 (by have := HG.out; omega), HM2.out, hc2⟩
      · have HF := Lib.hid (show hitO l (ws.drop k) ((q + 3 : Nat) : Int) = false by rw [HH.out, decide_eq_false hl]; rfl)
        have q1 : (((lvl ((q + 3 : Nat) : Int) : Nat) : Int) == (l : Int)) = false := beq_no (by omega)
        clear hl TT1 HH
        generalize sgnS ((q + 3 : Nat) : Int) = s at *
        generalize lvl ((q + 3 : Nat) : Int) = lv at *
        generalize hg : ((q + 3 : Nat) : Int) = op at *
        have HG := Lib.hid hg
        clear hg hop1
        go_wp2_with fail
        go_roundw
        case rel => exact ⟨q + 1, by omega, by go_num, fun j h1 h2 => by
          by_cases e : j = op
          · rw [e]; exact HF.out
          · have := HG.out; exact HN.out j h1 (by omega), HMA.out, HCA.out⟩
        case measure => simp only [intOf]; omega
    · obtain rfl : q = 10 := by omega
      go_wp2_with fail
      go_ret2
      exact .inr ⟨rfl, fun j h1 h2 => HN.out j h1 (by omega), HM.out, hc⟩
/-- The word that is taken. -/
def TookW (R cap k : Nat) (A : Option Addr) (ws : List W) (z : Int) (s : ByteArray) (w : World) (ee : Ending) (w' : World) : Prop :=
  ee = .returned (.agg #[.int .i64 z, .string s]) ∧ Mv R w w' ∧ Cu w' R A cap ws k
theorem Mv.set {R : Nat} {w w' : World} (h : Mv R w w') {b : Nat} (hb : w.heap.size ≤ b) (hR : R < w.heap.size) (o : Nat) (v : Value) : Mv R w (w'.setCell ⟨b, o, none⟩ v) :=
  ⟨⟨h.1.below.setCell (p := ⟨b, o, none⟩) (by show R ≤ b; omega) v, fun k h1 h2 => by
    show (w'.heap.modify b _)[k]? = _
    rw [Array.getElem?_modify, if_neg (by omega)]
    exact h.1.above k h1 h2⟩, fun o' ho => by rw [World.cell?_setCell_other _ _ _ _ (by intro e; injection e with e; omega)]; exact h.2 o' ho⟩
theorem Mv.drew {R : Nat} {w w' : World} (h : Mv R w w') : Mv R w w'.drew := ⟨⟨h.1.below.drew, h.1.above⟩, h.2⟩
theorem Cu.set {w : World} {R cap k : Nat} {A : Option Addr} {ws : List W} (h : Cu w R A cap ws k) {b : Nat} (hb : R < b) (o : Nat) (v : Value) : Cu (w.setCell ⟨b, o, none⟩ v) R A cap ws k :=
  ⟨h.wd.below ((Below.refl R w).setCell (p := ⟨b, o, none⟩) (Nat.le_of_lt hb) _), by simpa using h.lt, by rw [World.cell?_setCell_other _ _ _ _ (by intro e; injection e with e; omega)]; exact h.c0,
    by rw [World.cell?_setCell_other _ _ _ _ (by intro e; injection e with e; omega)]; exact h.c1, by rw [World.frozen?_setCell]; exact h.f1, h.le⟩
set_option maxHeartbeats 4000000 in
theorem take_yes (R cap k : Nat) (A : Option Addr) (ws : List W) (w : World) (h : Cu w R A cap ws k) (hn : ws.length ≤ 600) (hk : k < ws.length) :
    Calls Tryz.prog 101 #[.pointer (some ⟨R, 0, none⟩)] w (TookW R cap (k + 1) A ws ws[k].1 ws[k].2 w) := by
  have hal : Below w.heap.size w (w.alloc (.cells #[.int .i64 0, .string ⟨#[]⟩] 76)) := (Below.refl _ _).alloc (Nat.le_refl _) _
  have HA := Lib.hid (h.below hal)
  have HM := Lib.hid (Mv.of_below (R := R) hal h.lt)
  have AE := Lib.hid (atEnd_any R cap k A ws _ HA.out)
  have r0 : (w.alloc (.cells #[.int .i64 0, .string ⟨#[]⟩] 76)).cell? ⟨w.heap.size, 0, none⟩ = some (.int .i64 0) := alloc_cell w _ _ (0, 0) 0
  have r1 : (w.alloc (.cells #[.int .i64 0, .string ⟨#[]⟩] 76)).cell? ⟨w.heap.size, 1, none⟩ = some (.string ⟨#[]⟩) := alloc_cell w _ _ (0, 0) 1
  have f0 := alloc_frozen w #[.int .i64 0, .string ⟨#[]⟩] 76 0
  have f1 := alloc_frozen w #[.int .i64 0, .string ⟨#[]⟩] 76 1
  have hlt := h.lt
  have hle := h.le
  obtain ⟨b, o, rfl, hB, d1, d2⟩ := HA.out.wd.at_ hk
  have c0 := HA.out.c0
  have c1 := HA.out.c1
  have g1 := HA.out.f1
  have e0 : decide (k = ws.length) = false := decide_eq_false (by omega)
  rw [e0] at AE
  have hk3 : k ≤ 600 := by omega
  have hk1 : (0 : Int) ≤ (k : Int) := by omega
  have hk2 : (k : Int) < (ws.length : Int) := by omega
  have hne : b ≠ R := by omega
  have hRw : R ≠ w.heap.size := by omega
  have hbw : b ≠ w.heap.size := by omega
  clear h e0 hal
  generalize hs : ws[k].2 = s at *
  generalize hz : ws[k].1 = z at *
  clear hs hz
  go_enter Tryz.func101, Tryz.ntmps101
  go_wp2_with fail
  generalize w.alloc (.cells #[.int .i64 0, .string ⟨#[]⟩] 76) = wa at *
  (with_reducible refine Calls.mono AE.out ?_)
  rintro ee w1 ⟨rfl, rfl⟩
  go_wp2_with fail
  have c0' : (wa.drew.setCell ⟨R, 1, none⟩ (.int .i64 ((k : Int) + 1))).cell? ⟨R, 0, none⟩ = some (.slice (some ⟨b, o, none⟩) ws.length cap) := by rw [World.cell?_setCell_other _ _ _ _ (by simp)]; exact c0
  have c1' : (wa.drew.setCell ⟨R, 1, none⟩ (.int .i64 ((k : Int) + 1))).cell? ⟨R, 1, none⟩ = some (.int .i64 ((k : Int) + 1)) := World.cell?_setCell_same _ _ _ c1
  go_region
  all_goals
    go_wp2_with fail
    refine bodyPost_ret (v := .agg #[.int .i64 z, .string s]) (by simp [results, Tryz.results101, go_sem, r0, r1]) rfl ⟨rfl, ?_, ?_⟩
    · exact (((HM.out.drew.trans (Mv.next _ _ (.int .i64 ((k + 1 : Nat) : Int)))).drew).set (Nat.le_refl _) hlt 0 (.int .i64 z)).set (Nat.le_refl _) hlt 1 (.string s)
    · exact ((HA.out.drew.next (k' := k + 1) hk).drew.set hlt 0 (.int .i64 z)).set hlt 1 (.string s)
set_option maxHeartbeats 4000000 in
theorem take_no (R cap k : Nat) (A : Option Addr) (ws : List W) (w : World) (h : Cu w R A cap ws k) (hk : ¬ k < ws.length) :
    Calls Tryz.prog 101 #[.pointer (some ⟨R, 0, none⟩)] w (TookW R cap k A ws 0 ⟨#[]⟩ w) := by
  have hal : Below w.heap.size w (w.alloc (.cells #[.int .i64 0, .string ⟨#[]⟩] 76)) := (Below.refl _ _).alloc (Nat.le_refl _) _
  have HA := Lib.hid (h.below hal)
  have HM := Lib.hid (Mv.of_below (R := R) hal h.lt)
  have AE := Lib.hid (atEnd_any R cap k A ws _ HA.out)
  have r0 : (w.alloc (.cells #[.int .i64 0, .string ⟨#[]⟩] 76)).cell? ⟨w.heap.size, 0, none⟩ = some (.int .i64 0) := alloc_cell w _ _ (0, 0) 0
  have r1 : (w.alloc (.cells #[.int .i64 0, .string ⟨#[]⟩] 76)).cell? ⟨w.heap.size, 1, none⟩ = some (.string ⟨#[]⟩) := alloc_cell w _ _ (0, 0) 1
  have f0 := alloc_frozen w #[.int .i64 0, .string ⟨#[]⟩] 76 0
  have f1 := alloc_frozen w #[.int .i64 0, .string ⟨#[]⟩] 76 1
  have hlt := h.lt
  have hle := h.le
  have e0 : decide (k = ws.length) = true := decide_eq_true (by omega)
  rw [e0] at AE
  clear h e0 hal
  go_enter Tryz.func101, Tryz.ntmps101
  go_wp2_with fail
  generalize hwa : w.alloc (.cells #[.int .i64 0, .string ⟨#[]⟩] 76) = wa at *
  (with_reducible refine Calls.mono AE.out ?_)
  rintro ee w1 ⟨rfl, rfl⟩
  clear hwa
  go_wp2_with fail
  refine bodyPost_ret (v := .agg #[.int .i64 0, .string ⟨#[]⟩]) (by simp [results, Tryz.results101, go_sem, r0, r1]) rfl ⟨rfl, ?_, ?_⟩
  · exact (HM.out.drew.set (Nat.le_refl _) hlt 0 (.int .i64 0)).set (Nat.le_refl _) hlt 1 (.string ⟨#[]⟩)
  · exact (HA.out.drew.set hlt 0 (.int .i64 0)).set hlt 1 (.string ⟨#[]⟩)
end Go.Proofs.YtkhcfhhejmkikaaGreatDoor

namespace Go.Proofs.YtkhcfhhejmkikaaGreatDoor
open Go.RowKit
set_option maxRecDepth 100000

theorem below_drewN {B : Nat} {a w : World} (h : Below B a w) (q : Nat) : Below B a (w.drewN q) := ⟨h.os, h.tape, h.output, h.size, h.block⟩
set_option maxHeartbeats 1000000 in
theorem fitsWithin_zero (e : E) (A : Option Addr) (cap : Nat) (w : World) :
    Calls Tryz.prog 44 #[exV e A cap, .int .i64 0] w (BoolB (formE 0 e) w) := by
  unfold exV
  have hb := (Below.refl w.heap.size w).alloc (Nat.le_refl _) (.cells #[.int .i64 e.op, .int .i64 e.n, .string e.name, .slice A e.kids.length cap] 24)
  go_enter Tryz.func44, Tryz.ntmps44
  go_wp2
  go_quiet (fail)
  go_wp2
  go_ret
  exact ⟨rfl, below_drewN hb _⟩
/-- What the first test of fitsWithin leaves. -/
def FitsLeft (b : Bool) (v : Value) (w wx : World) (op n : Int) (s : ByteArray) (sl : Value) : Prop :=
  v = .bool b ∧ Below w.heap.size w wx ∧ w.heap.size < wx.heap.size ∧ wx.cell? ⟨w.heap.size, 0, none⟩ = some (.int .i64 op) ∧ wx.cell? ⟨w.heap.size, 1, none⟩ = some (.int .i64 n) ∧ wx.cell? ⟨w.heap.size, 2, none⟩ = some (.string s) ∧ wx.cell? ⟨w.heap.size, 3, none⟩ = some sl
set_option maxHeartbeats 1000000 in
theorem fitsWithin_succ (d : Nat) (hd : d < 100) (e : E) (A : Option Addr) (cap : Nat) (w : World) (hR : RdS w w.heap.size e.kids A) (T : Tabs w) (G : Sgn w) (hl : sizeE e ≤ 2000000)
    (ih : ∀ (e : E) (A : Option Addr) (cap : Nat) (w : World), RdS w w.heap.size e.kids A → Tabs w → Sgn w → sizeE e ≤ 2000000 → Calls Tryz.prog 44 #[exV e A cap, .int .i64 d] w (BoolB (formE d e) w)) :
    Calls Tryz.prog 44 #[exV e A cap, .int .i64 ((d : Int) + 1)] w (BoolB (formE (d + 1) e) w) := by
  have IH := Lib.hid ih
  clear ih
  have HR := Lib.hid hR
  clear hR
  have q1 : (((d : Int) + 1) == 0) = false := by rw [beq_eq_false_iff_ne]; omega
  unfold exV at IH ⊢
  obtain ⟨op, n, s, ks⟩ := e
  have hl0 : 1 + sizeL ks ≤ 2000000 := hl
  have hll := length_le_sizeL ks
  replace hl : ks.length ≤ 2000000 := by omega
  dsimp only [E.op, E.n, E.name, E.kids] at *
  have hb := (Below.refl w.heap.size w).alloc (Nat.le_refl _) (.cells #[.int .i64 op, .int .i64 n, .string s, .slice A ks.length cap] 24)
  have KO0 := fun W h => kindOf_any op W h
  have TT := fun W h => T.below (w' := W) h
  have TG := fun W h => G.below (w' := W) h
  have TK := Lib.hid (And.intro TT TG)
  clear T G TT TG
  have c0 : (w.alloc (.cells #[.int .i64 op, .int .i64 n, .string s, .slice A ks.length cap] 24)).cell? ⟨w.heap.size, 0, none⟩ = some (.int .i64 op) := alloc_cell w _ _ _ 0
  have c1 : (w.alloc (.cells #[.int .i64 op, .int .i64 n, .string s, .slice A ks.length cap] 24)).cell? ⟨w.heap.size, 1, none⟩ = some (.int .i64 n) := alloc_cell w _ _ _ 1
  have c2 : (w.alloc (.cells #[.int .i64 op, .int .i64 n, .string s, .slice A ks.length cap] 24)).cell? ⟨w.heap.size, 2, none⟩ = some (.string s) := alloc_cell w _ _ _ 2
  have c3 : (w.alloc (.cells #[.int .i64 op, .int .i64 n, .string s, .slice A ks.length cap] 24)).cell? ⟨w.heap.size, 3, none⟩ = some (.slice A ks.length cap) := alloc_cell w _ _ _ 3
  have hlt : w.heap.size < (w.alloc (.cells #[.int .i64 op, .int .i64 n, .string s, .slice A ks.length cap] 24)).heap.size := by rw [World.size_alloc]; omega
  go_enter Tryz.func44, Tryz.ntmps44
  go_wp2
  have C0 := Lib.hid c0
  have C1 := Lib.hid c1
  have C2 := Lib.hid c2
  have C3 := Lib.hid c3
  have HB := Lib.hid hb
  have HLT := Lib.hid hlt
  generalize w.alloc (.cells #[.int .i64 op, .int .i64 n, .string s, .slice A ks.length cap] 24) = wa at *
  go_upto_region 1 with (fail)
  go_cut [16] (fun v wx => FitsLeft (!fitB op n s ks.length) v w wx op n s (.slice A ks.length cap))
  case first =>
    have hkind : op = 1 ∨ op = 2 ∨ op = 13 ∨ (op = 11 ∨ op = 12) ∨ (3 ≤ op ∧ op ≤ 10) ∨ ¬ (1 ≤ op ∧ op ≤ 13) := by omega
    have TB0 := fun W (h : Below wa.heap.size wa W) => TK.out.1 W (hb.trans (h.mono (Nat.le_of_lt hlt)))
    have TB := Lib.hid TB0
    clear IH HR C0 C1 C2 C3 HB HLT TB0
    rcases hkind with rfl | rfl | rfl | ho | ho | ho
    · skip
      have e1 : kindV 1 = .iface 94 (.agg #[]) := rfl
      rw [e1] at KO0
      have KO := fun W h => Lib.hid (KO0 W h)
      clear e1 KO0
      go_region_held3 (fun u => u.cell? ⟨w.heap.size, 0, none⟩ = some (.int .i64 1) ∧ u.cell? ⟨w.heap.size, 1, none⟩ = some (.int .i64 n) ∧ u.cell? ⟨w.heap.size, 2, none⟩ = some (.string s) ∧ u.cell? ⟨w.heap.size, 3, none⟩ = some (.slice A ks.length cap)) (go_keep)
        (first
          | (go_at_call 70; (with_reducible refine Calls.mono (KO _ (TK.out.2 _ hb.drew)).out ?_); rintro ee w1 ⟨rfl, hb1⟩; have l1 : w.heap.size < w1.heap.size := Nat.lt_of_lt_of_le hlt hb1.size; have tb := Lib.hid (TB.out _ ((Below.refl _ wa).drew.trans hb1)); have g0 := (hb1.cell (p := ⟨w.heap.size, 0, none⟩) hlt).trans c0; have g1 := (hb1.cell (p := ⟨w.heap.size, 1, none⟩) hlt).trans c1; have g2 := (hb1.cell (p := ⟨w.heap.size, 2, none⟩) hlt).trans c2; have g3 := (hb1.cell (p := ⟨w.heap.size, 3, none⟩) hlt).trans c3)
          | (go_at_call 161; (with_reducible refine Calls.mono (fits_number n s 1 A ks.length cap _ (by omega)) ?_); rintro ee w2 ⟨rfl, hb2⟩; have k0 := (hb2.cell (p := ⟨w.heap.size, 0, none⟩) l1).trans g0; have k1 := (hb2.cell (p := ⟨w.heap.size, 1, none⟩) l1).trans g1; have k2 := (hb2.cell (p := ⟨w.heap.size, 2, none⟩) l1).trans g2; have k3 := (hb2.cell (p := ⟨w.heap.size, 3, none⟩) l1).trans g3))
      all_goals
        have hb3 := (hb.drew.trans (hb1.mono (Nat.le_of_lt hlt))).trans (hb2.mono (Nat.le_trans (Nat.le_of_lt hlt) hb1.size))
        have hlt3 := Nat.lt_of_lt_of_le l1 hb2.size
        go_wp2
        go_meet
        exact ⟨rfl, hb3, hlt3, k0, k1, k2, k3⟩
    · skip
      have e1 : kindV 2 = .iface 96 (.agg #[]) := rfl
      rw [e1] at KO0
      have KO := fun W h => Lib.hid (KO0 W h)
      clear e1 KO0
      go_region_held3 (fun u => u.cell? ⟨w.heap.size, 0, none⟩ = some (.int .i64 2) ∧ u.cell? ⟨w.heap.size, 1, none⟩ = some (.int .i64 n) ∧ u.cell? ⟨w.heap.size, 2, none⟩ = some (.string s) ∧ u.cell? ⟨w.heap.size, 3, none⟩ = some (.slice A ks.length cap)) (go_keep)
        (first
          | (go_at_call 70; (with_reducible refine Calls.mono (KO _ (TK.out.2 _ hb.drew)).out ?_); rintro ee w1 ⟨rfl, hb1⟩; have l1 : w.heap.size < w1.heap.size := Nat.lt_of_lt_of_le hlt hb1.size; have tb := Lib.hid (TB.out _ ((Below.refl _ wa).drew.trans hb1)); have g0 := (hb1.cell (p := ⟨w.heap.size, 0, none⟩) hlt).trans c0; have g1 := (hb1.cell (p := ⟨w.heap.size, 1, none⟩) hlt).trans c1; have g2 := (hb1.cell (p := ⟨w.heap.size, 2, none⟩) hlt).trans c2; have g3 := (hb1.cell (p := ⟨w.heap.size, 3, none⟩) hlt).trans c3)
          | (go_at_call 163; (with_reducible refine Calls.mono (fits_variable n s 2 A ks.length cap _ tb.out) ?_); rintro ee w2 ⟨rfl, hb2⟩; have k0 := (hb2.cell (p := ⟨w.heap.size, 0, none⟩) l1).trans g0; have k1 := (hb2.cell (p := ⟨w.heap.size, 1, none⟩) l1).trans g1; have k2 := (hb2.cell (p := ⟨w.heap.size, 2, none⟩) l1).trans g2; have k3 := (hb2.cell (p := ⟨w.heap.size, 3, none⟩) l1).trans g3))
      all_goals
        have hb3 := (hb.drew.trans (hb1.mono (Nat.le_of_lt hlt))).trans (hb2.mono (Nat.le_trans (Nat.le_of_lt hlt) hb1.size))
        have hlt3 := Nat.lt_of_lt_of_le l1 hb2.size
        go_wp2
        go_meet
        exact ⟨rfl, hb3, hlt3, k0, k1, k2, k3⟩
    · skip
      have e1 : kindV 13 = .iface 103 (.agg #[]) := rfl
      rw [e1] at KO0
      have KO := fun W h => Lib.hid (KO0 W h)
      clear e1 KO0
      go_region_held3 (fun u => u.cell? ⟨w.heap.size, 0, none⟩ = some (.int .i64 13) ∧ u.cell? ⟨w.heap.size, 1, none⟩ = some (.int .i64 n) ∧ u.cell? ⟨w.heap.size, 2, none⟩ = some (.string s) ∧ u.cell? ⟨w.heap.size, 3, none⟩ = some (.slice A ks.length cap)) (go_keep)
        (first
          | (go_at_call 70; (with_reducible refine Calls.mono (KO _ (TK.out.2 _ hb.drew)).out ?_); rintro ee w1 ⟨rfl, hb1⟩; have l1 : w.heap.size < w1.heap.size := Nat.lt_of_lt_of_le hlt hb1.size; have tb := Lib.hid (TB.out _ ((Below.refl _ wa).drew.trans hb1)); have g0 := (hb1.cell (p := ⟨w.heap.size, 0, none⟩) hlt).trans c0; have g1 := (hb1.cell (p := ⟨w.heap.size, 1, none⟩) hlt).trans c1; have g2 := (hb1.cell (p := ⟨w.heap.size, 2, none⟩) hlt).trans c2; have g3 := (hb1.cell (p := ⟨w.heap.size, 3, none⟩) hlt).trans c3)
          | (go_at_call 168; (with_reducible refine Calls.mono (fits_call n s 13 A ks.length cap _ (by omega) tb.out) ?_); rintro ee w2 ⟨rfl, hb2⟩; have k0 := (hb2.cell (p := ⟨w.heap.size, 0, none⟩) l1).trans g0; have k1 := (hb2.cell (p := ⟨w.heap.size, 1, none⟩) l1).trans g1; have k2 := (hb2.cell (p := ⟨w.heap.size, 2, none⟩) l1).trans g2; have k3 := (hb2.cell (p := ⟨w.heap.size, 3, none⟩) l1).trans g3))
      all_goals
        have hb3 := (hb.drew.trans (hb1.mono (Nat.le_of_lt hlt))).trans (hb2.mono (Nat.le_trans (Nat.le_of_lt hlt) hb1.size))
        have hlt3 := Nat.lt_of_lt_of_le l1 hb2.size
        go_wp2
        go_meet
        exact ⟨rfl, hb3, hlt3, k0, k1, k2, k3⟩
    · have HO := Lib.hid ho; clear ho
      have e1 : kindV op = .iface 102 (.agg #[.int .i64 op, .string (sgnS op), .int .i64 (lvl op : Int)]) := kindV_un HO.out
      rw [e1] at KO0
      have KO := fun W h => Lib.hid (KO0 W h)
      clear e1 KO0
      go_region_held3 (fun u => u.cell? ⟨w.heap.size, 0, none⟩ = some (.int .i64 op) ∧ u.cell? ⟨w.heap.size, 1, none⟩ = some (.int .i64 n) ∧ u.cell? ⟨w.heap.size, 2, none⟩ = some (.string s) ∧ u.cell? ⟨w.heap.size, 3, none⟩ = some (.slice A ks.length cap)) (go_keep)
        (first
          | (go_at_call 70; (with_reducible refine Calls.mono (KO _ (TK.out.2 _ hb.drew)).out ?_); rintro ee w1 ⟨rfl, hb1⟩; have l1 : w.heap.size < w1.heap.size := Nat.lt_of_lt_of_le hlt hb1.size; have tb := Lib.hid (TB.out _ ((Below.refl _ wa).drew.trans hb1)); have g0 := (hb1.cell (p := ⟨w.heap.size, 0, none⟩) hlt).trans c0; have g1 := (hb1.cell (p := ⟨w.heap.size, 1, none⟩) hlt).trans c1; have g2 := (hb1.cell (p := ⟨w.heap.size, 2, none⟩) hlt).trans c2; have g3 := (hb1.cell (p := ⟨w.heap.size, 3, none⟩) hlt).trans c3)
          | (go_at_call 166; (with_reducible refine Calls.mono (fits_ahead op _ _ n s op A ks.length cap _ (by omega) HO.out) ?_); rintro ee w2 ⟨rfl, hb2⟩; have k0 := (hb2.cell (p := ⟨w.heap.size, 0, none⟩) l1).trans g0; have k1 := (hb2.cell (p := ⟨w.heap.size, 1, none⟩) l1).trans g1; have k2 := (hb2.cell (p := ⟨w.heap.size, 2, none⟩) l1).trans g2; have k3 := (hb2.cell (p := ⟨w.heap.size, 3, none⟩) l1).trans g3))
      all_goals
        have hb3 := (hb.drew.trans (hb1.mono (Nat.le_of_lt hlt))).trans (hb2.mono (Nat.le_trans (Nat.le_of_lt hlt) hb1.size))
        have hlt3 := Nat.lt_of_lt_of_le l1 hb2.size
        go_wp2
        go_meet
        exact ⟨rfl, hb3, hlt3, k0, k1, k2, k3⟩
    · have HO := Lib.hid ho; clear ho
      have e1 : kindV op = .iface 100 (.agg #[.int .i64 op, .string (sgnS op), .int .i64 (lvl op : Int)]) := kindV_bin HO.out
      rw [e1] at KO0
      have KO := fun W h => Lib.hid (KO0 W h)
      clear e1 KO0
      go_region_held3 (fun u => u.cell? ⟨w.heap.size, 0, none⟩ = some (.int .i64 op) ∧ u.cell? ⟨w.heap.size, 1, none⟩ = some (.int .i64 n) ∧ u.cell? ⟨w.heap.size, 2, none⟩ = some (.string s) ∧ u.cell? ⟨w.heap.size, 3, none⟩ = some (.slice A ks.length cap)) (go_keep)
        (first
          | (go_at_call 70; (with_reducible refine Calls.mono (KO _ (TK.out.2 _ hb.drew)).out ?_); rintro ee w1 ⟨rfl, hb1⟩; have l1 : w.heap.size < w1.heap.size := Nat.lt_of_lt_of_le hlt hb1.size; have tb := Lib.hid (TB.out _ ((Below.refl _ wa).drew.trans hb1)); have g0 := (hb1.cell (p := ⟨w.heap.size, 0, none⟩) hlt).trans c0; have g1 := (hb1.cell (p := ⟨w.heap.size, 1, none⟩) hlt).trans c1; have g2 := (hb1.cell (p := ⟨w.heap.size, 2, none⟩) hlt).trans c2; have g3 := (hb1.cell (p := ⟨w.heap.size, 3, none⟩) hlt).trans c3)
          | (go_at_call 165; (with_reducible refine Calls.mono (fits_between op _ _ n s op A ks.length cap _ (by omega) HO.out) ?_); rintro ee w2 ⟨rfl, hb2⟩; have k0 := (hb2.cell (p := ⟨w.heap.size, 0, none⟩) l1).trans g0; have k1 := (hb2.cell (p := ⟨w.heap.size, 1, none⟩) l1).trans g1; have k2 := (hb2.cell (p := ⟨w.heap.size, 2, none⟩) l1).trans g2; have k3 := (hb2.cell (p := ⟨w.heap.size, 3, none⟩) l1).trans g3))
      all_goals
        have hb3 := (hb.drew.trans (hb1.mono (Nat.le_of_lt hlt))).trans (hb2.mono (Nat.le_trans (Nat.le_of_lt hlt) hb1.size))
        have hlt3 := Nat.lt_of_lt_of_le l1 hb2.size
        go_wp2
        go_meet
        exact ⟨rfl, hb3, hlt3, k0, k1, k2, k3⟩
    · have HO := Lib.hid ho; clear ho
      have e1 : kindV op = .iface 142 (.agg #[]) := kindV_no HO.out
      rw [e1] at KO0
      have KO := fun W h => Lib.hid (KO0 W h)
      clear e1 KO0
      go_region_held3 (fun u => u.cell? ⟨w.heap.size, 0, none⟩ = some (.int .i64 op) ∧ u.cell? ⟨w.heap.size, 1, none⟩ = some (.int .i64 n) ∧ u.cell? ⟨w.heap.size, 2, none⟩ = some (.string s) ∧ u.cell? ⟨w.heap.size, 3, none⟩ = some (.slice A ks.length cap)) (go_keep)
        (first
          | (go_at_call 70; (with_reducible refine Calls.mono (KO _ (TK.out.2 _ hb.drew)).out ?_); rintro ee w1 ⟨rfl, hb1⟩; have l1 : w.heap.size < w1.heap.size := Nat.lt_of_lt_of_le hlt hb1.size; have tb := Lib.hid (TB.out _ ((Below.refl _ wa).drew.trans hb1)); have g0 := (hb1.cell (p := ⟨w.heap.size, 0, none⟩) hlt).trans c0; have g1 := (hb1.cell (p := ⟨w.heap.size, 1, none⟩) hlt).trans c1; have g2 := (hb1.cell (p := ⟨w.heap.size, 2, none⟩) hlt).trans c2; have g3 := (hb1.cell (p := ⟨w.heap.size, 3, none⟩) hlt).trans c3)
          | (go_at_call 171; (with_reducible refine Calls.mono (fits_strange n s op A ks.length cap _ HO.out) ?_); rintro ee w2 ⟨rfl, hb2⟩; have k0 := (hb2.cell (p := ⟨w.heap.size, 0, none⟩) l1).trans g0; have k1 := (hb2.cell (p := ⟨w.heap.size, 1, none⟩) l1).trans g1; have k2 := (hb2.cell (p := ⟨w.heap.size, 2, none⟩) l1).trans g2; have k3 := (hb2.cell (p := ⟨w.heap.size, 3, none⟩) l1).trans g3))
      all_goals
        have hb3 := (hb.drew.trans (hb1.mono (Nat.le_of_lt hlt))).trans (hb2.mono (Nat.le_trans (Nat.le_of_lt hlt) hb1.size))
        have hlt3 := Nat.lt_of_lt_of_le l1 hb2.size
        go_wp2
        go_meet
        exact ⟨rfl, hb3, hlt3, k0, k1, k2, k3⟩
  case rest =>
    obtain ⟨rfl, hbc, hltc, d0, d1, d2, d3⟩ := hcut
    clear c0 c1 c2 c3 hb hlt C0 C1 C2 C3 HB HLT KO0 q1
    cases hf : fitB op n s ks.length
    · have HF := Lib.hid (formE_unfit (d := d + 1) (e := E.mk op n s ks) hf)
      clear hf
      rw [Bool.not_false]
      go_wp2
      go_ret
      exact ⟨by rw [HF.out]; rfl, hbc⟩
    · have HF := Lib.hid hf
      clear hf
      rw [Bool.not_true]
      go_wp2
      have hR := HR.out.below hbc
      have HR2 := Lib.hid hR
      clear hR d0 d1 d2 d3
      obtain ⟨wx, rfl⟩ : ∃ wx : World, wx = wc := ⟨_, rfl⟩
      go_loopw [20] (fun i wr => ∃ k : Nat, k ≤ ks.length ∧ i = .int .i64 k ∧ kidsTo d ks k ∧ Below w.heap.size w wr) (fun i _ => ks.length - (intOf i).toNat)
      case atStart => exact ⟨0, Nat.zero_le _, rfl, kidsTo_zero d ks, hbc⟩
      case round =>
        obtain ⟨k, hk, rfl, hall, hb⟩ := hrel
        have HA := Lib.hid hall
        have hbs := hb.size
        clear hall
        by_cases hlt : k < ks.length
        · obtain ⟨b, o, rfl, hB, ⟨c0, c1, c2⟩, A', cap', c3, hr'⟩ := (HR.out.below hb).at_ hlt
          have hsz : sizeE ks[k] ≤ 2000000 := by have := sizeL_get hlt; omega
          have hkid : ks[k] = ks[k] := rfl
          generalize hkd : ks[k] = kid at *
          have HK := Lib.hid hkd
          clear hkd hkid
          obtain ⟨op', n', s', ks'⟩ := kid
          dsimp only [E.op, E.n, E.name, E.kids] at c0 c1 c2 c3 hr'
          have hb1 := hb.alloc hbs (.cells #[.int .i64 op', .int .i64 n', .string s', .slice A' ks'.length cap'] 24)
          have hr2 := (hr'.below ((Below.refl _ _).alloc (Nat.le_trans (Nat.le_refl _) hbs) (.cells #[.int .i64 op', .int .i64 n', .string s', .slice A' ks'.length cap'] 24))).more hb1.size
          have IHK := Lib.hid (IH.out (E.mk op' n' s' ks') A' cap' _ hr2 (TK.out.1 _ hb1) (TK.out.2 _ hb1) hsz)
          clear hr' hr2 hsz
          dsimp only [E.op, E.n, E.name, E.kids] at IHK
          cases hf : formE d (E.mk op' n' s' ks')
          · have HBAD := Lib.hid (formE_bad (d := d) (e := E.mk op n s ks) (i := k) hlt (by show formE d ks[k] = false; rw [HK.out]; exact hf))
            rw [hf] at IHK
            clear hf
            go_wp2_with ((go_at_call 44; (with_reducible refine Calls.mono IHK.out ?_); rintro ee w2 ⟨rfl, hb2⟩; have hb3 := hb1.trans (hb2.mono hb1.size)))
            go_ret
            exact ⟨by rw [HBAD.out]; rfl, hb3⟩
          · have HN := Lib.hid (kidsTo_succ HA.out hlt (by rw [HK.out]; exact hf))
            rw [hf] at IHK
            clear hf
            go_wp2_with ((go_at_call 44; (with_reducible refine Calls.mono IHK.out ?_); rintro ee w2 ⟨rfl, hb2⟩; have hb3 := hb1.trans (hb2.mono hb1.size)))
            go_roundw
            case rel => exact ⟨k + 1, by omega, by go_num, HN.out, hb3⟩
            case measure => simp only [intOf]; omega
        · obtain rfl : k = ks.length := by omega
          have HY := Lib.hid (formE_yes (d := d) (e := E.mk op n s ks) HF.out HA.out)
          go_wp2
          go_ret
          exact ⟨by rw [HY.out]; rfl, hb⟩
/-- The program's test of form and depth. -/
theorem fitsWithin_any : ∀ (d : Nat) (_ : d ≤ 100) (e : E) (A : Option Addr) (cap : Nat) (w : World), RdS w w.heap.size e.kids A → Tabs w → Sgn w → sizeE e ≤ 2000000 →
    Calls Tryz.prog 44 #[exV e A cap, .int .i64 d] w (BoolB (formE d e) w)
  | 0, _, e, A, cap, w, _, _, _, _ => fitsWithin_zero e A cap w
  | d + 1, hd, e, A, cap, w, hR, T, G, hl => by
    rw [show ((d + 1 : Nat) : Int) = (d : Int) + 1 by omega]
    exact fitsWithin_succ d (by omega) e A cap w hR T G hl (fun e A cap w h1 h2 h3 h4 => fitsWithin_any d (by omega) e A cap w h1 h2 h3 h4)
end Go.Proofs.YtkhcfhhejmkikaaGreatDoor

namespace Go.Proofs.YtkhcfhhejmkikaaGreatDoor
open Go.RowKit
set_option maxRecDepth 100000

/-- Does a number lie between two? -/
def inB (lo x hi : Int) : Bool := decide (lo ≤ x ∧ x ≤ hi)
theorem inB_yes {lo x hi : Int} (h : lo ≤ x ∧ x ≤ hi) : inB lo x hi = true := decide_eq_true h
theorem inB_no {lo x hi : Int} (h : ¬ (lo ≤ x ∧ x ≤ hi)) : inB lo x hi = false := decide_eq_false h
set_option maxHeartbeats 1000000 in
theorem l1In_b (x lo hi : Int) (w : World) :
    Calls Tryz.prog 79 #[.int .i64 x, .int .i64 lo, .int .i64 hi] w fun e w' => e = .returned (.bool (inB lo x hi)) ∧ w = w' := by
  by_cases h1 : lo ≤ x
  · go_enter Tryz.func79, Tryz.ntmps79
    go_wp2
    go_ret
    exact ⟨ret_bool (by unfold inB; simp [h1]), rfl⟩
  · have h2 : x < lo := by omega
    go_enter Tryz.func79, Tryz.ntmps79
    go_wp2
    go_ret
    exact ⟨ret_bool (inB_no (by omega)).symm, rfl⟩
/-- How many Kids an op has, at least and at most. -/
def lowK (op : Int) : Int := if op = 1 ∨ op = 2 then 0 else if op = 11 ∨ op = 12 then 1 else if op = 13 then 0 else 2
def highK (op : Int) : Int := if op = 1 ∨ op = 2 then 0 else if op = 11 ∨ op = 12 then 1 else if op = 13 then 3 else 2
set_option maxHeartbeats 1000000 in
theorem l2Kids_any (op : Int) (w : World) :
    Calls Tryz.prog 78 #[.int .i64 op] w fun e w' => e = .returned (.tuple #[.int .i64 (lowK op), .int .i64 (highK op)]) ∧ w = w' := by
  by_cases h : op = 1 ∨ op = 2 ∨ op = 11 ∨ op = 12 ∨ op = 13
  · rcases h with rfl | rfl | rfl | rfl | rfl
    all_goals
      go_enter Tryz.func78, Tryz.ntmps78
      go_wp2
      go_ret2
      exact ⟨rfl, rfl⟩
  · have b1 : (op == 1) = false := beq_no (by omega)
    have b2 : (op == 2) = false := beq_no (by omega)
    have b3 : (op == 11) = false := beq_no (by omega)
    have b4 : (op == 12) = false := beq_no (by omega)
    have b5 : (op == 13) = false := beq_no (by omega)
    have e1 : lowK op = 2 := by unfold lowK; rw [if_neg (by omega), if_neg (by omega), if_neg (by omega)]
    have e2 : highK op = 2 := by unfold highK; rw [if_neg (by omega), if_neg (by omega), if_neg (by omega)]
    rw [e1, e2]
    clear h e1 e2
    go_enter Tryz.func78, Tryz.ntmps78
    go_wp2
    go_ret2
    exact ⟨rfl, rfl⟩

set_option maxHeartbeats 1000000 in
theorem countOne (g : Nat) (n : Int) (v0 v1 v2 v3 : Value) (w : World) (hc : w.cell? ⟨g, 0, none⟩ = some (.int .i64 n)) (hf : w.frozen? ⟨g, 0, none⟩ = false) (h0 : 0 ≤ n) (h1 : n ≤ 1000000000) (hg : g < w.heap.size) :
    Calls Tryz.prog 82 #[.agg #[v0, v1, v2, v3], .pointer (some ⟨g, 0, none⟩)] w fun e w' => e = .returned (.tuple #[]) ∧ w' = (w.setCell ⟨g, 0, none⟩ (.int .i64 (n + 1))).alloc (.cells #[v0, v1, v2, v3] 24) := by
  go_enter Tryz.func82, Tryz.ntmps82
  go_wp2
  go_end0
  exact ⟨rfl, rfl⟩
/-- What the model asks of an op and its Kids, and of the rest. -/
def askA (op : Int) (len : Nat) : Bool := inB 1 op 13 && inB (lowK op) len (highK op)
noncomputable def askB (op n : Int) (s : ByteArray) : Bool := decide ((op = 2 ∨ op = 13) ↔ nameB s = true) && decide ((op = 2 ∨ op = 13) ∨ s = ⟨#[]⟩) && inB 0 n 255 && decide (op = 1 ∨ n = 0)
theorem fit_ask (op n : Int) (s : ByteArray) (len : Nat) : fitB op n s len = (askA op len && askB op n s) := by
  have hne : nameB ⟨#[]⟩ = false := nameB_empty rfl
  rw [Bool.eq_iff_iff, Bool.and_eq_true]
  constructor
  · intro h
    unfold askA askB inB
    simp only [Bool.and_eq_true, decide_eq_true_eq]
    rcases fitB_cases h with ⟨rfl, hn, rfl, rfl⟩ | ⟨rfl, rfl, rfl, hs⟩ | ⟨rfl, rfl, hl, hs⟩ | ⟨ho, rfl, rfl, rfl⟩ | ⟨ho, rfl, rfl, rfl⟩
    · exact ⟨⟨by omega, by decide⟩, ⟨⟨⟨by rw [hne]; simp, by simp⟩, hn⟩, by simp⟩⟩
    · exact ⟨⟨by omega, by decide⟩, ⟨⟨⟨by rw [hs]; simp, by simp⟩, by omega⟩, by simp⟩⟩
    · exact ⟨⟨by omega, by show lowK 13 ≤ (len : Int) ∧ (len : Int) ≤ highK 13; have e1 : lowK 13 = 0 := rfl; have e2 : highK 13 = 3 := rfl; omega⟩, ⟨⟨⟨by rw [hs]; simp, by simp⟩, by omega⟩, by simp⟩⟩
    · have e1 : lowK op = 1 ∧ highK op = 1 := by rcases ho with rfl | rfl <;> exact ⟨rfl, rfl⟩
      exact ⟨⟨by omega, by rw [e1.1, e1.2]; decide⟩, ⟨⟨⟨(by rw [hne]; constructor <;> intro h <;> first | (exfalso; omega) | (cases h)), by simp⟩, by omega⟩, by simp⟩⟩
    · have e1 : lowK op = 2 ∧ highK op = 2 := by unfold lowK highK; constructor <;> rw [if_neg (by omega), if_neg (by omega), if_neg (by omega)]
      exact ⟨⟨by omega, by rw [e1.1, e1.2]; decide⟩, ⟨⟨⟨(by rw [hne]; constructor <;> intro h <;> first | (exfalso; omega) | (cases h)), by simp⟩, by omega⟩, by simp⟩⟩
  · rintro ⟨h1, h2⟩
    unfold askA inB at h1
    unfold askB inB at h2
    simp only [Bool.and_eq_true, decide_eq_true_eq] at h1 h2
    obtain ⟨ha, hb⟩ := h1
    obtain ⟨⟨⟨hc, hd⟩, he⟩, hf⟩ := h2
    have : op = 1 ∨ op = 2 ∨ op = 13 ∨ (op = 11 ∨ op = 12) ∨ (3 ≤ op ∧ op ≤ 10) := by omega
    rcases this with rfl | rfl | rfl | ho | ho
    · have e1 : lowK 1 = 0 := rfl
      have e2 : highK 1 = 0 := rfl
      rcases hd with hd | rfl
      · omega
      · rw [fitB_num, decide_eq_true_eq]; exact ⟨he.1, he.2, rfl, by omega⟩
    · have e1 : lowK 2 = 0 := rfl
      have e2 : highK 2 = 0 := rfl
      rw [fitB_var, Bool.and_eq_true, decide_eq_true_eq]
      exact ⟨⟨by omega, by omega⟩, hc.1 (by omega)⟩
    · have e1 : lowK 13 = 0 := rfl
      have e2 : highK 13 = 3 := rfl
      rw [fitB_call, Bool.and_eq_true, decide_eq_true_eq]
      exact ⟨⟨by omega, by omega⟩, hc.1 (by omega)⟩
    · have e1 : lowK op = 1 ∧ highK op = 1 := by rcases ho with rfl | rfl <;> exact ⟨rfl, rfl⟩
      rcases hd with hd | rfl
      · omega
      · rw [fitB_un ho, decide_eq_true_eq]; exact ⟨by omega, rfl, by omega⟩
    · have e1 : lowK op = 2 ∧ highK op = 2 := by unfold lowK highK; constructor <;> rw [if_neg (by omega), if_neg (by omega), if_neg (by omega)]
      rcases hd with hd | rfl
      · omega
      · rw [fitB_bin ho, decide_eq_true_eq]; exact ⟨by omega, rfl, by omega⟩
theorem box_cells (w : World) (v0 v1 v2 v3 : Value) (t : TypeId) : (w.alloc (.cells #[v0, v1, v2, v3] t)).cell? ⟨w.heap.size, 0, none⟩ = some v0 ∧ (w.alloc (.cells #[v0, v1, v2, v3] t)).cell? ⟨w.heap.size, 1, none⟩ = some v1 ∧
    (w.alloc (.cells #[v0, v1, v2, v3] t)).cell? ⟨w.heap.size, 2, none⟩ = some v2 ∧ (w.alloc (.cells #[v0, v1, v2, v3] t)).cell? ⟨w.heap.size, 3, none⟩ = some v3 ∧ w.heap.size < (w.alloc (.cells #[v0, v1, v2, v3] t)).heap.size ∧ Below w.heap.size w (w.alloc (.cells #[v0, v1, v2, v3] t)) :=
  ⟨alloc_cell w _ _ _ 0, alloc_cell w _ _ _ 1, alloc_cell w _ _ _ 2, alloc_cell w _ _ _ 3, by rw [World.size_alloc]; omega, (Below.refl _ _).alloc (Nat.le_refl _) _⟩
set_option maxHeartbeats 2000000 in
theorem l2Form_succ (d : Nat) (hd : d < 100) (e : E) (A : Option Addr) (cap : Nat) (w : World) (hR : RdS w w.heap.size e.kids A) (hl : bulkE e ≤ 2000000)
    (ih : ∀ (e : E) (A : Option Addr) (cap : Nat) (w : World), RdS w w.heap.size e.kids A → bulkE e ≤ 2000000 → Calls Tryz.prog 39 #[exV e A cap, .int .i64 d] w (BoolB (formE d e) w)) :
    Calls Tryz.prog 39 #[exV e A cap, .int .i64 ((d : Int) + 1)] w (BoolB (formE (d + 1) e) w) := by
  unfold exV at ih ⊢
  have IH := Lib.hid ih
  have HR := Lib.hid hR
  clear ih hR
  have hfl := fit_ask e.op e.n e.name e.kids.length
  have hbk := bulkE_kids e
  have hlk := length_le_sizeL e.kids
  have hsb := sizeL_bulk e.kids
  obtain ⟨op, n, s, ks⟩ := e
  dsimp only [E.op, E.n, E.name, E.kids] at *
  have hs : s.size ≤ 2000000 := by omega
  have hkl : bulkL ks ≤ 2000000 := by omega
  have hln : ks.length ≤ 2000000 := by omega
  have HFL := Lib.hid hfl
  clear hfl hbk hlk hsb hl
  obtain ⟨c0, c1, c2, c3, hlt, hb⟩ := box_cells w (.int .i64 op) (.int .i64 n) (.string s) (.slice A ks.length cap) 24
  go_enter Tryz.func39, Tryz.ntmps39
  go_wp2_with fail
  refine (l2Kids_any _ _).mono ?_
  rintro e w' ⟨rfl, rfl⟩
  generalize w.alloc (.cells #[.int .i64 op, .int .i64 n, .string s, .slice A ks.length cap] 24) = wa at *
  go_upto_region 2 with (fail)
  go_cut [31] (fun v wx => v = .bool (!askA op ks.length) ∧ wx = wa)
  case first =>
    have hq1 : ¬ (d : Int) + 1 < 1 := by omega
    have q1 : decide ((d : Int) + 1 < 1) = false := decide_eq_false hq1
    have HA := Lib.hid (show askA op ks.length = (inB 1 op 13 && inB (lowK op) ks.length (highK op)) from rfl)
    clear IH HR c1 c2
    cases h1 : inB 1 op 13
    · have H1 := Lib.hid h1
      clear h1
      go_wp2_with ((go_at_call 79; (with_reducible refine Calls.mono (l1In_b _ _ _ _) ?_); rintro ee w1 ⟨rfl, rfl⟩; rw [H1.out]))
      go_meet
      exact ⟨by rw [HA.out, H1.out]; rfl, rfl⟩
    · have H1 := Lib.hid h1
      clear h1
      cases h2 : inB (lowK op) ks.length (highK op)
      all_goals
        have H2 := Lib.hid h2
        clear h2
        go_wp2_with fail
        (with_reducible refine Calls.mono (l1In_b _ _ _ _) ?_)
        rintro ee w1 ⟨rfl, rfl⟩
        rw [H1.out]
        go_wp2_with fail
        (with_reducible refine Calls.mono (l1In_b _ _ _ _) ?_)
        rintro ee w1 ⟨rfl, rfl⟩
        rw [H2.out]
        go_wp2
        go_meet
        exact ⟨by rw [HA.out, H1.out, H2.out]; rfl, rfl⟩
  case rest =>
    obtain ⟨rfl, rfl⟩ := hcut
    cases ha : askA op ks.length
    · have HN := Lib.hid (formE_unfit (d := d + 1) (e := E.mk op n s ks) (by show fitB op n s ks.length = false; rw [HFL.out, ha]; rfl))
      clear ha
      rw [Bool.not_false]
      go_wp2
      go_ret
      exact ⟨by rw [HN.out]; rfl, hb⟩
    have HA := Lib.hid ha
    clear ha
    rw [Bool.not_true]
    go_upto_region 4 with (fail)
    obtain ⟨nb, hnb⟩ : ∃ nb : Bool, nb = (op == 2 || op == 13) := ⟨_, rfl⟩
    have HNB := Lib.hid hnb
    clear hnb
    go_cut [7] (fun v wx => v = .bool nb ∧ wx = wc)
    case first =>
      clear IH HR c1 c2 c3
      by_cases h2 : op = 2
      · have b2 := beq_yes h2
        have b3 : (op == 13) = false := beq_no (by omega)
        clear h2
        go_wp2
        go_meet
        exact ⟨by rw [HNB.out, b2]; rfl, rfl⟩
      · have b2 := beq_no h2
        clear h2
        go_wp2
        go_meet
        exact ⟨by rw [HNB.out, b2]; rfl, rfl⟩
    case rest =>
      obtain ⟨rfl, rfl⟩ := hcut
      obtain ⟨wb, rfl⟩ : ∃ wb : World, wb = wc := ⟨_, rfl⟩
      go_upto_region 5 with (fail)
      go_cut [69] (fun v wx => v = .bool (!askB op n s) ∧ Below wb.heap.size wb wx)
      case first =>
        have CN := fun W => Lib.hid (specIsName_any s W (by unfold maxLen; omega))
        have HQ := Lib.hid (show askB op n s = (decide ((op = 2 ∨ op = 13) ↔ nameB s = true) && decide ((op = 2 ∨ op = 13) ∨ s = ⟨#[]⟩) && inB 0 n 255 && decide (op = 1 ∨ n = 0)) from rfl)
        have HNM := Lib.hid (HNB.out.trans (show (op == 2 || op == 13) = decide (op = 2 ∨ op = 13) by rw [Bool.eq_iff_iff]; simp))
        have lt3 : ∀ W, Below wb.heap.size wb W → W.cell? ⟨w.heap.size, 0, none⟩ = some (.int .i64 op) ∧ W.cell? ⟨w.heap.size, 1, none⟩ = some (.int .i64 n) ∧ W.cell? ⟨w.heap.size, 2, none⟩ = some (.string s) := fun W h => ⟨(h.cell (p := ⟨w.heap.size, 0, none⟩) hlt).trans c0, (h.cell (p := ⟨w.heap.size, 1, none⟩) hlt).trans c1, (h.cell (p := ⟨w.heap.size, 2, none⟩) hlt).trans c2⟩
        have LT3 := Lib.hid lt3
        clear IH HR lt3 c3 HNB
        cases nb
        rotate_left
        · have hn : op = 2 ∨ op = 13 := of_decide_eq_true HNM.out.symm
          have hb1 : (op == 1) = false := beq_no (by omega)
          have hb2 : (op != 1) = true := by rw [bne, hb1]; rfl
          have HN := Lib.hid hn
          clear hn HNM
          cases hB : nameB s
          · rw [hB] at CN
            have HB := Lib.hid hB
            clear hB
            go_wp2_with fail
            refine Calls.mono (CN _).out ?_
            rintro ee w1 ⟨rfl, hbx⟩
            go_wp2
            go_meet
            exact ⟨by rw [HQ.out, decide_eq_false (p := (op = 2 ∨ op = 13) ↔ nameB s = true) (by rw [HB.out]; simp [HN.out])]; rfl, hbx⟩
          · rw [hB] at CN
            have HB := Lib.hid hB
            clear hB
            cases hI : inB 0 n 255
            · have HI := Lib.hid hI
              clear hI
              go_wp2_with fail
              refine Calls.mono (CN _).out ?_
              rintro ee w1 ⟨rfl, hbx⟩
              obtain ⟨k0, k1, k2⟩ := LT3.out _ hbx
              go_wp2_with fail
              refine Calls.mono (l1In_b _ _ _ _) ?_
              rintro ee w2 ⟨rfl, rfl⟩
              rw [HI.out]
              go_wp2
              go_meet
              exact ⟨by rw [HQ.out, HI.out]; simp, hbx⟩
            · have HI := Lib.hid hI
              clear hI
              by_cases hz : n = 0
              · have z1 := beq_yes hz
                have z2 : (n != 0) = false := by rw [bne, z1]; rfl
                have HZ := Lib.hid hz
                clear hz
                go_wp2_with fail
                refine Calls.mono (CN _).out ?_
                rintro ee w1 ⟨rfl, hbx⟩
                obtain ⟨k0, k1, k2⟩ := LT3.out _ hbx
                go_wp2_with fail
                refine Calls.mono (l1In_b _ _ _ _) ?_
                rintro ee w2 ⟨rfl, rfl⟩
                rw [HI.out]
                go_wp2
                go_meet
                exact ⟨by rw [HQ.out, HI.out, HB.out]; simp [HN.out, HZ.out], hbx⟩
              · have z1 := beq_no hz
                have z2 : (n != 0) = true := by rw [bne, z1]; rfl
                have HZ := Lib.hid hz
                clear hz
                go_wp2_with fail
                refine Calls.mono (CN _).out ?_
                rintro ee w1 ⟨rfl, hbx⟩
                obtain ⟨k0, k1, k2⟩ := LT3.out _ hbx
                go_wp2_with fail
                refine Calls.mono (l1In_b _ _ _ _) ?_
                rintro ee w2 ⟨rfl, rfl⟩
                rw [HI.out]
                go_wp2
                go_meet
                exact ⟨by rw [HQ.out, decide_eq_false (p := op = 1 ∨ n = 0) (by have := HN.out; have := HZ.out; omega)]; simp, hbx⟩
        · have hn : ¬ (op = 2 ∨ op = 13) := of_decide_eq_false HNM.out.symm
          have HN := Lib.hid hn
          clear hn HNM
          cases hB : nameB s
          · rw [hB] at CN
            have HB := Lib.hid hB
            clear hB
            by_cases he : s = ⟨#[]⟩
            · cases hI : inB 0 n 255
              · have HI := Lib.hid hI
                clear hI
                subst he
                go_wp2_with fail
                refine Calls.mono (CN _).out ?_
                rintro ee w1 ⟨rfl, hbx⟩
                obtain ⟨k0, k1, k2⟩ := LT3.out _ hbx
                go_wp2_with fail
                refine Calls.mono (l1In_b _ _ _ _) ?_
                rintro ee w2 ⟨rfl, rfl⟩
                rw [HI.out]
                go_wp2
                go_meet
                exact ⟨by rw [HQ.out, HI.out]; simp, hbx⟩
              · have HI := Lib.hid hI
                clear hI
                subst he
                by_cases h1 : op = 1
                · have b1 := beq_yes h1
                  have b2 : (op != 1) = false := by rw [bne, b1]; rfl
                  have H1 := Lib.hid h1
                  clear h1
                  go_wp2_with fail
                  refine Calls.mono (CN _).out ?_
                  rintro ee w1 ⟨rfl, hbx⟩
                  obtain ⟨k0, k1, k2⟩ := LT3.out _ hbx
                  go_wp2_with fail
                  refine Calls.mono (l1In_b _ _ _ _) ?_
                  rintro ee w2 ⟨rfl, rfl⟩
                  rw [HI.out]
                  go_wp2
                  go_meet
                  exact ⟨by rw [HQ.out, HI.out, HB.out]; simp [H1.out], hbx⟩
                · have b1 := beq_no h1
                  have b2 : (op != 1) = true := by rw [bne, b1]; rfl
                  have H1 := Lib.hid h1
                  clear h1
                  by_cases hz : n = 0
                  · have z1 := beq_yes hz
                    have z2 : (n != 0) = false := by rw [bne, z1]; rfl
                    have HZ := Lib.hid hz
                    clear hz
                    go_wp2_with fail
                    refine Calls.mono (CN _).out ?_
                    rintro ee w1 ⟨rfl, hbx⟩
                    obtain ⟨k0, k1, k2⟩ := LT3.out _ hbx
                    go_wp2_with fail
                    refine Calls.mono (l1In_b _ _ _ _) ?_
                    rintro ee w2 ⟨rfl, rfl⟩
                    rw [HI.out]
                    go_wp2
                    go_meet
                    exact ⟨by rw [HQ.out, HI.out, HB.out]; simp [HN.out, HZ.out], hbx⟩
                  · have z1 := beq_no hz
                    have z2 : (n != 0) = true := by rw [bne, z1]; rfl
                    have HZ := Lib.hid hz
                    clear hz
                    go_wp2_with fail
                    refine Calls.mono (CN _).out ?_
                    rintro ee w1 ⟨rfl, hbx⟩
                    obtain ⟨k0, k1, k2⟩ := LT3.out _ hbx
                    go_wp2_with fail
                    refine Calls.mono (l1In_b _ _ _ _) ?_
                    rintro ee w2 ⟨rfl, rfl⟩
                    rw [HI.out]
                    go_wp2
                    go_meet
                    exact ⟨by rw [HQ.out, decide_eq_false (p := op = 1 ∨ n = 0) (by have := H1.out; have := HZ.out; omega)]; simp, hbx⟩
            · obtain ⟨e1, e2⟩ := full_str he
              have HE := Lib.hid he
              clear he
              go_wp2_with fail
              refine Calls.mono (CN _).out ?_
              rintro ee w1 ⟨rfl, hbx⟩
              obtain ⟨k0, k1, k2⟩ := LT3.out _ hbx
              go_wp2
              go_meet
              exact ⟨by rw [HQ.out, decide_eq_false (p := (op = 2 ∨ op = 13) ∨ s = ⟨#[]⟩) (by have := HN.out; have := HE.out; intro h; rcases h with h | h <;> contradiction)]; simp, hbx⟩
          · rw [hB] at CN
            have HB := Lib.hid hB
            clear hB
            go_wp2_with fail
            refine Calls.mono (CN _).out ?_
            rintro ee w1 ⟨rfl, hbx⟩
            go_wp2
            go_meet
            exact ⟨by rw [HQ.out, decide_eq_false (p := (op = 2 ∨ op = 13) ↔ nameB s = true) (by rw [HB.out]; simp [HN.out])]; rfl, hbx⟩
      case rest =>
        obtain ⟨rfl, hbx⟩ := hcut
        clear c0 c1 c2
        cases hq : askB op n s
        · have HN := Lib.hid (formE_unfit (d := d + 1) (e := E.mk op n s ks) (by show fitB op n s ks.length = false; rw [HFL.out, hq, Bool.and_false]))
          clear hq
          rw [Bool.not_false]
          have hbz := hb.trans (hbx.mono (Nat.le_of_lt hlt))
          go_wp2
          go_ret
          exact ⟨by rw [HN.out]; rfl, hbz⟩
        have HF := Lib.hid (show fitB op n s ks.length = true by rw [HFL.out, HA.out, hq]; rfl)
        clear hq
        rw [Bool.not_true]
        go_wp2
        go_loopw [8] (fun i wr => ∃ k : Nat, k ≤ ks.length ∧ i = .int .i64 k ∧ kidsTo d ks k ∧ Below wb.heap.size wb wr) (fun i _ => ks.length - (intOf i).toNat)
        case atStart => exact ⟨0, Nat.zero_le _, rfl, kidsTo_zero d ks, hbx⟩
        case round =>
          obtain ⟨k, hk, rfl, hall, hbr⟩ := hrel
          have HKT := Lib.hid hall
          have g3 := (hbr.cell (p := ⟨w.heap.size, 3, none⟩) hlt).trans c3
          have hbw := hb.trans (hbr.mono (Nat.le_of_lt hlt))
          have hbs := hbw.size
          clear hall
          by_cases hlk : k < ks.length
          · obtain ⟨b, o, rfl, hB, ⟨d0, d1, d2⟩, A', cap', d3, hr'⟩ := (HR.out.below hbw).at_ hlk
            have hsz : bulkE ks[k] ≤ 2000000 := by have := bulkL_mem (List.getElem_mem hlk); omega
            generalize hkd : ks[k] = kid at *
            have HK := Lib.hid hkd
            clear hkd
            obtain ⟨op', n', s', ks'⟩ := kid
            dsimp only [E.op, E.n, E.name, E.kids] at d0 d1 d2 d3 hr'
            have IHK := Lib.hid (IH.out (E.mk op' n' s' ks') A' cap' _ (hr'.more hbs) hsz)
            clear hr' hsz
            dsimp only [E.op, E.n, E.name, E.kids] at IHK
            cases hf : formE d (E.mk op' n' s' ks')
            · have HBAD := Lib.hid (formE_bad (d := d) (e := E.mk op n s ks) (i := k) hlk (by show formE d ks[k] = false; rw [HK.out]; exact hf))
              rw [hf] at IHK
              clear hf
              go_wp2_with ((go_at_call 39; (with_reducible refine Calls.mono IHK.out ?_); rintro ee w2 ⟨rfl, hb2⟩; have hb3 := hbw.trans (hb2.mono hbs)))
              go_ret
              exact ⟨by rw [HBAD.out]; rfl, hb3⟩
            · have HN := Lib.hid (kidsTo_succ HKT.out hlk (by rw [HK.out]; exact hf))
              rw [hf] at IHK
              clear hf
              go_wp2_with ((go_at_call 39; (with_reducible refine Calls.mono IHK.out ?_); rintro ee w2 ⟨rfl, hb2⟩; have hb3 := hbr.trans (hb2.mono hbr.size)))
              go_roundw
              case rel => exact ⟨k + 1, by omega, by go_num, HN.out, hb3⟩
              case measure => simp only [intOf]; omega
          · obtain rfl : k = ks.length := by omega
            have HY := Lib.hid (formE_yes (d := d) (e := E.mk op n s ks) HF.out HKT.out)
            go_wp2
            go_ret
            exact ⟨by rw [HY.out]; rfl, hbw⟩
set_option maxHeartbeats 1000000 in
theorem l2Form_zero (e : E) (A : Option Addr) (cap : Nat) (w : World) :
    Calls Tryz.prog 39 #[exV e A cap, .int .i64 0] w (BoolB (formE 0 e) w) := by
  unfold exV
  obtain ⟨c0, c1, c2, c3, hlt, hb⟩ := box_cells w (.int .i64 e.op) (.int .i64 e.n) (.string e.name) (.slice A e.kids.length cap) 24
  go_enter Tryz.func39, Tryz.ntmps39
  go_wp2_with fail
  refine (l2Kids_any _ _).mono ?_
  rintro e w' ⟨rfl, rfl⟩
  go_wp2
  go_ret
  exact ⟨rfl, hb⟩
/-- The model's test of form and depth. -/
theorem l2Form_any : ∀ (d : Nat) (_ : d ≤ 100) (e : E) (A : Option Addr) (cap : Nat) (w : World), RdS w w.heap.size e.kids A → bulkE e ≤ 2000000 →
    Calls Tryz.prog 39 #[exV e A cap, .int .i64 d] w (BoolB (formE d e) w)
  | 0, _, e, A, cap, w, _, _ => l2Form_zero e A cap w
  | d + 1, hd, e, A, cap, w, hR, hl => by
    rw [show ((d + 1 : Nat) : Int) = (d : Int) + 1 by omega]
    exact l2Form_succ d (by omega) e A cap w hR hl (fun e A cap w h1 h4 => l2Form_any d (by omega) e A cap w h1 h4)
end Go.Proofs.YtkhcfhhejmkikaaGreatDoor
