/-
  Kinds of ops: what kindOf returns, and what the kinds' methods answer.
-/
import Derived.Test.YtoepehlndljkoaaDoorC2
import Derived.Test.YtoepehlndljkoaaDoorB0
import Derived.Test.YtoepehlndljkoaaDoorEX
import Derived.Test.YtoepehlndljkoaaDoorEB
import Derived.Deep.RegionWith
namespace Go.Proofs.YtoepehlndljkoaaDoor
open Go.RowKit
set_option maxRecDepth 100000

/-- An op that has a sign, as cells. -/
def sgRow (k : Nat) : List Value := [.int .i64 (k + 3 : Nat), .string (sgnS (k + 3 : Nat)), .int .i64 (lvl (k + 3 : Nat) : Int)]
def sgCells : List Value := sgRow 0 ++ sgRow 1 ++ sgRow 2 ++ sgRow 3 ++ sgRow 4 ++ sgRow 5 ++ sgRow 6 ++ sgRow 7 ++ sgRow 8 ++ sgRow 9
def sgTab : Value := .agg sgCells.toArray
/-- The program's table of ops stands in the world. -/
structure Sgn (w : World) : Prop where
  row : ∃ t fr, w.heap[0]? = some (.cells sgCells.toArray t fr)
theorem Sgn.below {w w' : World} (T : Sgn w) (hb : Below w.heap.size w w') : Sgn w' := by
  obtain ⟨t, fr, h⟩ := T.row
  exact ⟨t, fr, by rw [hb.block _ (Array.getElem?_eq_some_iff.1 h).1]; exact h⟩
/-- The kind of an op, as a value. -/
def kindV (op : Int) : Value :=
  if op = 1 then .iface 61 (.agg #[])
  else if op = 2 then .iface 63 (.agg #[])
  else if op = 13 then .iface 70 (.agg #[])
  else if op = 11 ∨ op = 12 then .iface 69 (.agg (sgRow (op - 3).toNat).toArray)
  else if 3 ≤ op ∧ op ≤ 10 then .iface 67 (.agg (sgRow (op - 3).toNat).toArray)
  else .iface 96 (.agg #[])
theorem sgTab_at (k : Nat) (hk : k < 10) (w : World) : (Instr.index 95 sgTab (.int .i64 (k : Int))).run Tryd.prog w = .ok (.agg (sgRow k).toArray) w := by
  have h : k = 0 ∨ k = 1 ∨ k = 2 ∨ k = 3 ∨ k = 4 ∨ k = 5 ∨ k = 6 ∨ k = 7 ∨ k = 8 ∨ k = 9 := by omega
  rcases h with rfl | rfl | rfl | rfl | rfl | rfl | rfl | rfl | rfl | rfl <;> (show _ = _; kernel_rfl)

theorem kindV_at (k : Nat) (hk : k < 10) : kindV (k + 3 : Nat) = if lvl (k + 3 : Nat) = 5 then .iface 69 (.agg #[.int .i64 (k + 3 : Nat), .string (sgnS (k + 3 : Nat)), .int .i64 (lvl (k + 3 : Nat) : Int)]) else .iface 67 (.agg #[.int .i64 (k + 3 : Nat), .string (sgnS (k + 3 : Nat)), .int .i64 (lvl (k + 3 : Nat) : Int)]) := by
  have h : k = 0 ∨ k = 1 ∨ k = 2 ∨ k = 3 ∨ k = 4 ∨ k = 5 ∨ k = 6 ∨ k = 7 ∨ k = 8 ∨ k = 9 := by omega
  rcases h with rfl | rfl | rfl | rfl | rfl | rfl | rfl | rfl | rfl | rfl <;> rfl
set_option maxHeartbeats 1000000 in
theorem kindOf_first (op : Int) (w : World) (h : op = 1 ∨ op = 2 ∨ op = 13) :
    Calls Tryd.prog 33 #[.int .i64 op] w fun e w' => e = .returned (kindV op) ∧ w = w' := by
  rcases h with rfl | rfl | rfl
  all_goals
    go_enter Tryd.func33, Tryd.ntmps33
    go_wp2
    go_ret
    exact ⟨rfl, rfl⟩
set_option maxHeartbeats 1000000 in
theorem kindOf_rest (op : Int) (w : World) (h : ¬ (op = 1 ∨ op = 2 ∨ op = 13)) (T : Sgn w) :
    Calls Tryd.prog 33 #[.int .i64 op] w fun e w' => e = .returned (kindV op) ∧ Below w.heap.size w w' := by
  obtain ⟨t, fr, hk⟩ := T.row
  clear T
  have b1 : (op == 1) = false := by rw [beq_eq_false_iff_ne]; omega
  have b2 : (op == 2) = false := by rw [beq_eq_false_iff_ne]; omega
  have b3 : (op == 13) = false := by rw [beq_eq_false_iff_ne]; omega
  have HH := Lib.hid h
  clear h
  go_enter Tryd.func33, Tryd.ntmps33
  go_wp2_with (with_reducible refine wpList_load_row rfl _ _ rfl _ rfl _ _ _ _ hk Tryd.underlying95 rfl (by kernel_rfl) ?_)
  clear hk
  have hidx := sgTab_at
  unfold sgTab at hidx
  generalize Value.agg sgCells.toArray = KT at *
  have HI := Lib.hid hidx
  clear hidx
  clear b1 b2 b3
  go_loopw [19] (fun i wr => ∃ k : Nat, k ≤ 10 ∧ i = .int .i64 k ∧ (∀ j : Nat, j < k → op ≠ (j + 3 : Nat)) ∧ Below w.heap.size w wr) (fun i _ => 10 - (intOf i).toNat)
  case atStart => exact ⟨0, Nat.zero_le _, rfl, fun j hj => absurd hj (by omega), Below.refl _ _⟩
  case round =>
    obtain ⟨k, hk, rfl, hno, hb⟩ := hrel
    have HN := Lib.hid hno
    clear hno
    have hbs := hb.size
    by_cases hlt : k < 10
    · have hi := HI.out k hlt wr
      have HK := Lib.hid (show k + 3 = k + 3 from rfl)
      by_cases he : op = (k + 3 : Nat)
      · have HV := kindV_at k hlt
        unfold sgRow at hi
        rw [← he] at hi HV
        have q1 : (op == op) = true := by simp
        have q2 : (op != op) = false := by simp
        clear he HK HN
        by_cases h5 : lvl op = 5
        · have q3 : ((lvl op : Int) == 5) = true := by rw [beq_iff_eq]; omega
          rw [if_pos h5] at HV
          replace HV := Lib.hid HV
          clear h5
          go_wp2
          go_ret
          exact ⟨by rw [HV.out]; rfl, hb.alloc hbs _⟩
        · have q3 : ((lvl op : Int) == 5) = false := by rw [beq_eq_false_iff_ne]; omega
          rw [if_neg h5] at HV
          replace HV := Lib.hid HV
          clear h5
          go_wp2
          go_ret
          exact ⟨by rw [HV.out]; rfl, hb.alloc hbs _⟩
      · have q1 : (((k + 3 : Nat) : Int) == op) = false := by rw [beq_eq_false_iff_ne]; exact fun e => he e.symm
        have q2 : (((k + 3 : Nat) : Int) != op) = true := by rw [bne, q1]; rfl
        have HE := Lib.hid he
        unfold sgRow at hi
        clear he
        generalize hko : ((k + 3 : Nat) : Int) = o at *
        have HKO := Lib.hid hko
        clear hko
        generalize (lvl o : Int) = l at *
        generalize sgnS o = sg at *
        go_wp2
        go_roundw
        case rel => exact ⟨k + 1, by omega, by go_num, fun j hj => by
          by_cases e : j = k
          · subst e; rw [HKO.out]; exact HE.out
          · exact HN.out j (by omega), hb.alloc hbs _⟩
        case measure => simp only [intOf]; omega
    · obtain rfl : k = 10 := by omega
      have HV : kindV op = .iface 96 (.agg #[]) := by
        have h3 : ¬ (3 ≤ op ∧ op ≤ 12) := by
          rintro ⟨h1, h2⟩
          exact HN.out (op - 3).toNat (by omega) (by omega)
        unfold kindV
        have := HH.out
        rw [if_neg (by omega), if_neg (by omega), if_neg (by omega), if_neg (by omega), if_neg (by omega)]
      replace HV := Lib.hid HV
      go_wp2
      go_ret
      exact ⟨by rw [HV.out]; rfl, hb⟩
theorem kindOf_any (op : Int) (w : World) (T : Sgn w) :
    Calls Tryd.prog 33 #[.int .i64 op] w fun e w' => e = .returned (kindV op) ∧ Below w.heap.size w w' := by
  by_cases h : op = 1 ∨ op = 2 ∨ op = 13
  · exact (kindOf_first op w h).mono fun e w' ⟨h1, h2⟩ => ⟨h1, by subst h2; exact Below.refl _ _⟩
  · exact kindOf_rest op w h T

/-- A string that is not empty, in the walk's spellings. -/
theorem full_str {s : ByteArray} (h : s ≠ ⟨#[]⟩) : s.toList.isEmpty = false ∧ (!s.toList.isEmpty) = true := by
  have e1 : s.toList.isEmpty = false := by
    rw [ByteArray.toList_eq, List.isEmpty_eq_false_iff]
    intro e
    apply h
    cases s with | mk d =>
    have : d.toList = [] := e
    rw [Array.toList_eq_nil_iff] at this
    rw [this]
  exact ⟨e1, by rw [e1]; rfl⟩
theorem fitB_num (n : Int) (s : ByteArray) (len : Nat) : fitB 1 n s len = decide (0 ≤ n ∧ n ≤ 255 ∧ s.size = 0 ∧ len = 0) := by unfold fitB; rw [if_pos rfl]
theorem fitB_var (n : Int) (s : ByteArray) (len : Nat) : fitB 2 n s len = (decide (n = 0 ∧ len = 0) && nameB s) := by unfold fitB; rw [if_neg (by decide), if_pos rfl]
theorem fitB_call (n : Int) (s : ByteArray) (len : Nat) : fitB 13 n s len = (decide (n = 0 ∧ len ≤ 3) && nameB s) := by unfold fitB; rw [if_neg (by decide), if_neg (by decide), if_pos rfl]
theorem fitB_un {op : Int} (h : op = 11 ∨ op = 12) (n : Int) (s : ByteArray) (len : Nat) : fitB op n s len = decide (n = 0 ∧ s.size = 0 ∧ len = 1) := by unfold fitB; rw [if_neg (by omega), if_neg (by omega), if_neg (by omega), if_pos h]
theorem fitB_bin {op : Int} (h : 3 ≤ op ∧ op ≤ 10) (n : Int) (s : ByteArray) (len : Nat) : fitB op n s len = decide (n = 0 ∧ s.size = 0 ∧ len = 2) := by unfold fitB; rw [if_neg (by omega), if_neg (by omega), if_neg (by omega), if_neg (by omega), if_pos h]
theorem fitB_no {op : Int} (h : ¬ (1 ≤ op ∧ op ≤ 13)) (n : Int) (s : ByteArray) (len : Nat) : fitB op n s len = false := by unfold fitB; rw [if_neg (by omega), if_neg (by omega), if_neg (by omega), if_neg (by omega), if_neg (by omega)]
set_option maxHeartbeats 1000000 in
theorem fits_number (n : Int) (s : ByteArray) (op : Int) (A : Option Addr) (len cap : Nat) (w : World) (_ : len ≤ 9223372036854775807) :
    Calls Tryd.prog 111 #[.agg #[], .agg #[.int .i64 op, .int .i64 n, .string s, .slice A len cap]] w (BoolB (fitB 1 n s len) w) := by
  by_cases h0 : 0 ≤ n
  · by_cases h1 : n ≤ 255
    · by_cases h2 : s = ⟨#[]⟩
      · subst h2
        go_enter Tryd.func111, Tryd.ntmps111
        go_wp2
        go_ret
        exact ⟨ret_bool (by rw [fitB_num]; have hz : (⟨#[]⟩ : ByteArray).size = 0 := rfl; rw [Bool.eq_iff_iff, beq_iff_eq, decide_eq_true_eq]; omega), two_boxes _ _ _⟩
      · obtain ⟨e1, e2⟩ := full_str h2
        have HH := Lib.hid h2
        clear h2
        go_enter Tryd.func111, Tryd.ntmps111
        go_wp2
        go_ret
        exact ⟨ret_bool (by rw [fitB_num, eq_comm, decide_eq_false_iff_not]; exact fun h => HH.out (size_zero h.2.2.1)), two_boxes _ _ _⟩
    · have h1' : 255 < n := by omega
      go_enter Tryd.func111, Tryd.ntmps111
      go_wp2
      go_ret
      exact ⟨ret_bool (by rw [fitB_num, eq_comm, decide_eq_false_iff_not]; omega), two_boxes _ _ _⟩
  · have h0' : n < 0 := by omega
    go_enter Tryd.func111, Tryd.ntmps111
    go_wp2
    go_ret
    exact ⟨ret_bool (by rw [fitB_num, eq_comm, decide_eq_false_iff_not]; omega), two_boxes _ _ _⟩
set_option maxHeartbeats 1000000 in
theorem fits_variable (n : Int) (s : ByteArray) (op : Int) (A : Option Addr) (len cap : Nat) (w : World) (T : Tabs w) :
    Calls Tryd.prog 113 #[.agg #[], .agg #[.int .i64 op, .int .i64 n, .string s, .slice A len cap]] w (BoolB (fitB 2 n s len) w) := by
  have hb := two_boxes w (.cells #[] 63) (.cells #[.int .i64 op, .int .i64 n, .string s, .slice A len cap] 30)
  by_cases h0 : n = 0
  · subst h0
    have CN := Lib.hid (implIsName_any s _ (T.below hb))
    have HF := Lib.hid (fitB_var 0 s len)
    clear T
    generalize nameB s = b at *
    cases b
    all_goals
      go_enter Tryd.func113, Tryd.ntmps113
      go_wp2_with fail
      refine CN.out.mono ?_
      rintro e w' ⟨rfl, rfl⟩
      go_wp2
      go_ret
      exact ⟨ret_bool (by rw [HF.out, Bool.eq_iff_iff]; simp <;> omega), hb⟩
  · have b1 := beq_no h0
    have HH := Lib.hid h0
    clear h0 T
    go_enter Tryd.func113, Tryd.ntmps113
    go_wp2
    go_ret
    exact ⟨ret_bool (by rw [fitB_var]; simp [HH.out]), hb⟩
set_option maxHeartbeats 1000000 in
theorem fits_call (n : Int) (s : ByteArray) (op : Int) (A : Option Addr) (len cap : Nat) (w : World) (_ : len ≤ 9223372036854775807) (T : Tabs w) :
    Calls Tryd.prog 118 #[.agg #[], .agg #[.int .i64 op, .int .i64 n, .string s, .slice A len cap]] w (BoolB (fitB 13 n s len) w) := by
  have hb := two_boxes w (.cells #[] 70) (.cells #[.int .i64 op, .int .i64 n, .string s, .slice A len cap] 30)
  by_cases h0 : n = 0
  · subst h0
    have CN := Lib.hid (implIsName_any s _ (T.below hb))
    have HF := Lib.hid (fitB_call 0 s len)
    clear T
    generalize nameB s = b at *
    cases b
    all_goals
      go_enter Tryd.func118, Tryd.ntmps118
      go_wp2_with fail
      refine CN.out.mono ?_
      rintro e w' ⟨rfl, rfl⟩
      go_wp2
      go_ret
      exact ⟨ret_bool (by rw [HF.out, Bool.eq_iff_iff]; simp <;> omega), hb⟩
  · have b1 := beq_no h0
    have HH := Lib.hid h0
    clear h0 T
    go_enter Tryd.func118, Tryd.ntmps118
    go_wp2
    go_ret
    exact ⟨ret_bool (by rw [fitB_call]; simp [HH.out]), hb⟩
set_option maxHeartbeats 1000000 in
theorem fits_ahead (z l : Int) (sg : ByteArray) (n : Int) (s : ByteArray) (op : Int) (A : Option Addr) (len cap : Nat) (w : World) (_ : len ≤ 9223372036854775807) (ho : op = 11 ∨ op = 12) :
    Calls Tryd.prog 116 #[.agg #[.int .i64 z, .string sg, .int .i64 l], .agg #[.int .i64 op, .int .i64 n, .string s, .slice A len cap]] w (BoolB (fitB op n s len) w) := by
  have hb := two_boxes w (.cells #[.int .i64 z, .string sg, .int .i64 l] 69) (.cells #[.int .i64 op, .int .i64 n, .string s, .slice A len cap] 30)
  have HF := Lib.hid (fitB_un ho n s len)
  clear ho
  generalize fitB op n s len = b at *
  by_cases h0 : n = 0
  · subst h0
    by_cases h2 : s = ⟨#[]⟩
    · subst h2
      go_enter Tryd.func116, Tryd.ntmps116
      go_wp2
      go_ret
      exact ⟨ret_bool (by rw [HF.out]; have hz : (⟨#[]⟩ : ByteArray).size = 0 := rfl; rw [Bool.eq_iff_iff, beq_iff_eq, decide_eq_true_eq]; exact ⟨fun h => ⟨by trivial, hz, by omega⟩, fun h => by have := h.2.2; omega⟩), hb⟩
    · obtain ⟨e1, e2⟩ := full_str h2
      have HH := Lib.hid h2
      clear h2
      go_enter Tryd.func116, Tryd.ntmps116
      go_wp2
      go_ret
      exact ⟨ret_bool (by rw [HF.out, eq_comm, decide_eq_false_iff_not]; exact fun h => HH.out (size_zero h.2.1)), hb⟩
  · have b1 := beq_no h0
    have HH := Lib.hid h0
    clear h0
    go_enter Tryd.func116, Tryd.ntmps116
    go_wp2
    go_ret
    exact ⟨ret_bool (by rw [HF.out, eq_comm, decide_eq_false_iff_not]; exact fun h => HH.out h.1), hb⟩
set_option maxHeartbeats 1000000 in
theorem fits_between (z l : Int) (sg : ByteArray) (n : Int) (s : ByteArray) (op : Int) (A : Option Addr) (len cap : Nat) (w : World) (_ : len ≤ 9223372036854775807) (ho : 3 ≤ op ∧ op ≤ 10) :
    Calls Tryd.prog 115 #[.agg #[.int .i64 z, .string sg, .int .i64 l], .agg #[.int .i64 op, .int .i64 n, .string s, .slice A len cap]] w (BoolB (fitB op n s len) w) := by
  have hb := two_boxes w (.cells #[.int .i64 z, .string sg, .int .i64 l] 67) (.cells #[.int .i64 op, .int .i64 n, .string s, .slice A len cap] 30)
  have HF := Lib.hid (fitB_bin ho n s len)
  clear ho
  generalize fitB op n s len = b at *
  by_cases h0 : n = 0
  · subst h0
    by_cases h2 : s = ⟨#[]⟩
    · subst h2
      go_enter Tryd.func115, Tryd.ntmps115
      go_wp2
      go_ret
      exact ⟨ret_bool (by rw [HF.out]; have hz : (⟨#[]⟩ : ByteArray).size = 0 := rfl; rw [Bool.eq_iff_iff, beq_iff_eq, decide_eq_true_eq]; exact ⟨fun h => ⟨by trivial, hz, by omega⟩, fun h => by have := h.2.2; omega⟩), hb⟩
    · obtain ⟨e1, e2⟩ := full_str h2
      have HH := Lib.hid h2
      clear h2
      go_enter Tryd.func115, Tryd.ntmps115
      go_wp2
      go_ret
      exact ⟨ret_bool (by rw [HF.out, eq_comm, decide_eq_false_iff_not]; exact fun h => HH.out (size_zero h.2.1)), hb⟩
  · have b1 := beq_no h0
    have HH := Lib.hid h0
    clear h0
    go_enter Tryd.func115, Tryd.ntmps115
    go_wp2
    go_ret
    exact ⟨ret_bool (by rw [HF.out, eq_comm, decide_eq_false_iff_not]; exact fun h => HH.out h.1), hb⟩
set_option maxHeartbeats 1000000 in
theorem fits_strange (n : Int) (s : ByteArray) (op : Int) (A : Option Addr) (len cap : Nat) (w : World) (ho : ¬ (1 ≤ op ∧ op ≤ 13)) :
    Calls Tryd.prog 121 #[.agg #[], .agg #[.int .i64 op, .int .i64 n, .string s, .slice A len cap]] w (BoolB (fitB op n s len) w) := by
  rw [fitB_no ho]
  clear ho
  go_enter Tryd.func121, Tryd.ntmps121
  go_wp2
  go_ret
  exact ⟨rfl, two_boxes _ _ _⟩
theorem kindV_un {op : Int} (h : op = 11 ∨ op = 12) : kindV op = .iface 69 (.agg #[.int .i64 op, .string (sgnS op), .int .i64 (lvl op : Int)]) := by
  rcases h with rfl | rfl <;> rfl
theorem kindV_bin {op : Int} (h : 3 ≤ op ∧ op ≤ 10) : kindV op = .iface 67 (.agg #[.int .i64 op, .string (sgnS op), .int .i64 (lvl op : Int)]) := by
  have : op = 3 ∨ op = 4 ∨ op = 5 ∨ op = 6 ∨ op = 7 ∨ op = 8 ∨ op = 9 ∨ op = 10 := by omega
  rcases this with rfl | rfl | rfl | rfl | rfl | rfl | rfl | rfl <;> rfl
theorem kindV_no {op : Int} (h : ¬ (1 ≤ op ∧ op ≤ 13)) : kindV op = .iface 96 (.agg #[]) := by
  unfold kindV
  rw [if_neg (by omega), if_neg (by omega), if_neg (by omega), if_neg (by omega), if_neg (by omega)]
end Go.Proofs.YtoepehlndljkoaaDoor
