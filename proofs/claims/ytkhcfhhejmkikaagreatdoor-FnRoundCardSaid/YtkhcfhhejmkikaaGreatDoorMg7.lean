/-
  Marks: what the laws' own markText returns; marks written into a slice of texts are held there.
-/
import Derived.Test.YtkhcfhhejmkikaaGreatDoorMg1
import Derived.Test.YtkhcfhhejmkikaaGreatDoorMg2
import Derived.Test.YtkhcfhhejmkikaaGreatDoorMg4
import Derived.Test.YtkhcfhhejmkikaaGreatDoorMg6
import Derived.Deep.RegionWith
import Derived.Deep.Fields
import Derived.Deep.Slices
import Derived.ShapedOpen
import Derived.Lib.ItoaNum
import Derived.Laws.BytesArg
namespace Go.Proofs.YtkhcfhhejmkikaaGreatDoor
open Go.RowKit
set_option maxRecDepth 100000

/-- An op that has a sign, as cells. -/
def sgRow (k : Nat) : List Value := [.int .i64 (k + 3 : Nat), .string (sgnS (k + 3 : Nat)), .int .i64 (lvl (k + 3 : Nat) : Int)]
def sgCells : List Value := sgRow 0 ++ sgRow 1 ++ sgRow 2 ++ sgRow 3 ++ sgRow 4 ++ sgRow 5 ++ sgRow 6 ++ sgRow 7 ++ sgRow 8 ++ sgRow 9
def sgTab : Value := .agg sgCells.toArray
/-- The program's table of ops stands in the world. -/
structure Sgn (w : World) : Prop where
  row : ∃ t fr, w.heap[0]? = some (.cells sgCells.toArray t fr)
theorem Sgn.below {w w' : World} (T : Sgn w) (hb : Below w.heap.size w w') : Sgn w' := by
  obtain ⟨t, fr, h⟩ := T.row
  exact ⟨t, fr, by rw [hb.block _ (Array.getElem?_eq_some_iff.1 h).1]; exact h⟩
/-- The kind of an op, as a value. -/
def kindV (op : Int) : Value :=
  if op = 1 then .iface 94 (.agg #[])
  else if op = 2 then .iface 96 (.agg #[])
  else if op = 13 then .iface 103 (.agg #[])
  else if op = 11 ∨ op = 12 then .iface 102 (.agg (sgRow (op - 3).toNat).toArray)
  else if 3 ≤ op ∧ op ≤ 10 then .iface 100 (.agg (sgRow (op - 3).toNat).toArray)
  else .iface 142 (.agg #[])
theorem sgTab_at (k : Nat) (hk : k < 10) (w : World) : (Instr.index 141 sgTab (.int .i64 (k : Int))).run Tryz.prog w = .ok (.agg (sgRow k).toArray) w := by
  have h : k = 0 ∨ k = 1 ∨ k = 2 ∨ k = 3 ∨ k = 4 ∨ k = 5 ∨ k = 6 ∨ k = 7 ∨ k = 8 ∨ k = 9 := by omega
  rcases h with rfl | rfl | rfl | rfl | rfl | rfl | rfl | rfl | rfl | rfl <;> (show _ = _; kernel_rfl)

theorem kindV_at (k : Nat) (hk : k < 10) : kindV (k + 3 : Nat) = if lvl (k + 3 : Nat) = 5 then .iface 102 (.agg #[.int .i64 (k + 3 : Nat), .string (sgnS (k + 3 : Nat)), .int .i64 (lvl (k + 3 : Nat) : Int)]) else .iface 100 (.agg #[.int .i64 (k + 3 : Nat), .string (sgnS (k + 3 : Nat)), .int .i64 (lvl (k + 3 : Nat) : Int)]) := by
  have h : k = 0 ∨ k = 1 ∨ k = 2 ∨ k = 3 ∨ k = 4 ∨ k = 5 ∨ k = 6 ∨ k = 7 ∨ k = 8 ∨ k = 9 := by omega
  rcases h with rfl | rfl | rfl | rfl | rfl | rfl | rfl | rfl | rfl | rfl <;> rfl
set_option maxHeartbeats 1000000 in
theorem kindOf_first (op : Int) (w : World) (h : op = 1 ∨ op = 2 ∨ op = 13) :
    Calls Tryz.prog 70 #[.int .i64 op] w fun e w' => e = .returned (kindV op) ∧ w = w' := by
  rcases h with rfl | rfl | rfl
  all_goals
    go_enter Tryz.func70, Tryz.ntmps70
    go_wp2
    go_ret
    exact ⟨rfl, rfl⟩
set_option maxHeartbeats 1000000 in
theorem kindOf_rest (op : Int) (w : World) (h : ¬ (op = 1 ∨ op = 2 ∨ op = 13)) (T : Sgn w) :
    Calls Tryz.prog 70 #[.int .i64 op] w fun e w' => e = .returned (kindV op) ∧ Below w.heap.size w w' := by
  obtain ⟨t, fr, hk⟩ := T.row
  clear T
  have b1 : (op == 1) = false := by rw [beq_eq_false_iff_ne]; omega
  have b2 : (op == 2) = false := by rw [beq_eq_false_iff_ne]; omega
  have b3 : (op == 13) = false := by rw [beq_eq_false_iff_ne]; omega
  have HH := Lib.hid h
  clear h
  go_enter Tryz.func70, Tryz.ntmps70
  go_wp2_with (with_reducible refine wpList_load_row rfl _ _ rfl _ rfl _ _ _ _ hk Tryz.underlying141 rfl (by kernel_rfl) ?_)
  clear hk
  have hidx := sgTab_at
  unfold sgTab at hidx
  generalize Value.agg sgCells.toArray = KT at *
  have HI := Lib.hid hidx
  clear hidx
  clear b1 b2 b3
  go_loopw [19] (fun i wr => ∃ k : Nat, k ≤ 10 ∧ i = .int .i64 k ∧ (∀ j : Nat, j < k → op ≠ (j + 3 : Nat)) ∧ Below w.heap.size w wr) (fun i _ => 10 - (intOf i).toNat)
  case atStart => exact ⟨0, Nat.zero_le _, rfl, fun j hj => absurd hj (by omega), Below.refl _ _⟩
  case round =>
    obtain ⟨k, hk, rfl, hno, hb⟩ := hrel
    have HN := Lib.hid hno
    clear hno
    have hbs := hb.size
    by_cases hlt : k < 10
    · have hi := HI.out k hlt wr
      have HK := Lib.hid (show k + 3 = k + 3 from rfl)
      by_cases he : op = (k + 3 : Nat)
      · have HV := kindV_at k hlt
        unfold sgRow at hi
        rw [← he] at hi HV
        have q1 : (op == op) = true := by simp
        have q2 : (op != op) = false := by simp
        clear he HK HN
        by_cases h5 : lvl op = 5
        · have q3 : ((lvl op : Int) == 5) = true := by rw [beq_iff_eq]; omega
          rw [if_pos h5] at HV
          replace HV := Lib.hid HV
          clear h5
          go_wp2
          go_ret
          exact ⟨by rw [HV.out]; rfl, hb.alloc hbs _⟩
        · have q3 : ((lvl op : Int) == 5) = false := by rw [beq_eq_false_iff_ne]; omega
          rw [if_neg h5] at HV
          replace HV := Lib.hid HV
          clear h5
          go_wp2
          go_ret
          exact ⟨by rw [HV.out]; rfl, hb.alloc hbs _⟩
      · have q1 : (((k + 3 : Nat) : Int) == op) = false := by rw [beq_eq_false_iff_ne]; exact fun e => he e.symm
        have q2 : (((k + 3 : Nat) : Int) != op) = true := by rw [bne, q1]; rfl
        have HE := Lib.hid he
        unfold sgRow at hi
        clear he
        generalize hko : ((k + 3 : Nat) : Int) = o at *
        have HKO := Lib.hid hko
        clear hko
        generalize (lvl o : Int) = l at *
        generalize sgnS o = sg at *
        go_wp2
        go_roundw
        case rel => exact ⟨k + 1, by omega, by go_num, fun j hj => by
          by_cases e : j = k
          · subst e; rw [HKO.out]; exact HE.out
          · exact HN.out j (by omega), hb.alloc hbs _⟩
        case measure => simp only [intOf]; omega
    · obtain rfl : k = 10 := by omega
      have HV : kindV op = .iface 142 (.agg #[]) := by
        have h3 : ¬ (3 ≤ op ∧ op ≤ 12) := by
          rintro ⟨h1, h2⟩
          exact HN.out (op - 3).toNat (by omega) (by omega)
        unfold kindV
        have := HH.out
        rw [if_neg (by omega), if_neg (by omega), if_neg (by omega), if_neg (by omega), if_neg (by omega)]
      replace HV := Lib.hid HV
      go_wp2
      go_ret
      exact ⟨by rw [HV.out]; rfl, hb⟩
theorem kindOf_any (op : Int) (w : World) (T : Sgn w) :
    Calls Tryz.prog 70 #[.int .i64 op] w fun e w' => e = .returned (kindV op) ∧ Below w.heap.size w w' := by
  by_cases h : op = 1 ∨ op = 2 ∨ op = 13
  · exact (kindOf_first op w h).mono fun e w' ⟨h1, h2⟩ => ⟨h1, by subst h2; exact Below.refl _ _⟩
  · exact kindOf_rest op w h T

/-- A string that is not empty, in the walk's spellings. -/
theorem full_str {s : ByteArray} (h : s ≠ ⟨#[]⟩) : s.toList.isEmpty = false ∧ (!s.toList.isEmpty) = true := by
  have e1 : s.toList.isEmpty = false := by
    rw [ByteArray.toList_eq, List.isEmpty_eq_false_iff]
    intro e
    apply h
    cases s with | mk d =>
    have : d.toList = [] := e
    rw [Array.toList_eq_nil_iff] at this
    rw [this]
  exact ⟨e1, by rw [e1]; rfl⟩
theorem fitB_num (n : Int) (s : ByteArray) (len : Nat) : fitB 1 n s len = decide (0 ≤ n ∧ n ≤ 255 ∧ s.size = 0 ∧ len = 0) := by unfold fitB; rw [if_pos rfl]
theorem fitB_var (n : Int) (s : ByteArray) (len : Nat) : fitB 2 n s len = (decide (n = 0 ∧ len = 0) && nameB s) := by unfold fitB; rw [if_neg (by decide), if_pos rfl]
theorem fitB_call (n : Int) (s : ByteArray) (len : Nat) : fitB 13 n s len = (decide (n = 0 ∧ len ≤ 3) && nameB s) := by unfold fitB; rw [if_neg (by decide), if_neg (by decide), if_pos rfl]
theorem fitB_un {op : Int} (h : op = 11 ∨ op = 12) (n : Int) (s : ByteArray) (len : Nat) : fitB op n s len = decide (n = 0 ∧ s.size = 0 ∧ len = 1) := by unfold fitB; rw [if_neg (by omega), if_neg (by omega), if_neg (by omega), if_pos h]
theorem fitB_bin {op : Int} (h : 3 ≤ op ∧ op ≤ 10) (n : Int) (s : ByteArray) (len : Nat) : fitB op n s len = decide (n = 0 ∧ s.size = 0 ∧ len = 2) := by unfold fitB; rw [if_neg (by omega), if_neg (by omega), if_neg (by omega), if_neg (by omega), if_pos h]
theorem fitB_no {op : Int} (h : ¬ (1 ≤ op ∧ op ≤ 13)) (n : Int) (s : ByteArray) (len : Nat) : fitB op n s len = false := by unfold fitB; rw [if_neg (by omega), if_neg (by omega), if_neg (by omega), if_neg (by omega), if_neg (by omega)]
set_option maxHeartbeats 1000000 in
theorem fits_number (n : Int) (s : ByteArray) (op : Int) (A : Option Addr) (len cap : Nat) (w : World) (_ : len ≤ 9223372036854775807) :
    Calls Tryz.prog 161 #[.agg #[], .agg #[.int .i64 op, .int .i64 n, .string s, .slice A len cap]] w (BoolB (fitB 1 n s len) w) := by
  by_cases h0 : 0 ≤ n
  · by_cases h1 : n ≤ 255
    · by_cases h2 : s = ⟨#[]⟩
      · subst h2
        go_enter Tryz.func161, Tryz.ntmps161
        go_wp2
        go_ret
        exact ⟨ret_bool (by rw [fitB_num]; have hz : (⟨#[]⟩ : ByteArray).size = 0 := rfl; rw [Bool.eq_iff_iff, beq_iff_eq, decide_eq_true_eq]; omega), two_boxes _ _ _⟩
      · obtain ⟨e1, e2⟩ := full_str h2
        have HH := Lib.hid h2
        clear h2
        go_enter Tryz.func161, Tryz.ntmps161
        go_wp2
        go_ret
        exact ⟨ret_bool (by rw [fitB_num, eq_comm, decide_eq_false_iff_not]; exact fun h => HH.out (size_zero h.2.2.1)), two_boxes _ _ _⟩
    · have h1' : 255 < n := by omega
      go_enter Tryz.func161, Tryz.ntmps161
      go_wp2
      go_ret
      exact ⟨ret_bool (by rw [fitB_num, eq_comm, decide_eq_false_iff_not]; omega), two_boxes _ _ _⟩
  · have h0' : n < 0 := by omega
    go_enter Tryz.func161, Tryz.ntmps161
    go_wp2
    go_ret
    exact ⟨ret_bool (by rw [fitB_num, eq_comm, decide_eq_false_iff_not]; omega), two_boxes _ _ _⟩
set_option maxHeartbeats 1000000 in
theorem fits_variable (n : Int) (s : ByteArray) (op : Int) (A : Option Addr) (len cap : Nat) (w : World) (T : Tabs w) :
    Calls Tryz.prog 163 #[.agg #[], .agg #[.int .i64 op, .int .i64 n, .string s, .slice A len cap]] w (BoolB (fitB 2 n s len) w) := by
  have hb := two_boxes w (.cells #[] 96) (.cells #[.int .i64 op, .int .i64 n, .string s, .slice A len cap] 24)
  by_cases h0 : n = 0
  · subst h0
    have CN := Lib.hid (implIsName_any s _ (T.below hb))
    have HF := Lib.hid (fitB_var 0 s len)
    clear T
    generalize nameB s = b at *
    cases b
    all_goals
      go_enter Tryz.func163, Tryz.ntmps163
      go_wp2_with fail
      refine CN.out.mono ?_
      rintro e w' ⟨rfl, rfl⟩
      go_wp2
      go_ret
      exact ⟨ret_bool (by rw [HF.out, Bool.eq_iff_iff]; simp <;> omega), hb⟩
  · have b1 := beq_no h0
    have HH := Lib.hid h0
    clear h0 T
    go_enter Tryz.func163, Tryz.ntmps163
    go_wp2
    go_ret
    exact ⟨ret_bool (by rw [fitB_var]; simp [HH.out]), hb⟩
set_option maxHeartbeats 1000000 in
theorem fits_call (n : Int) (s : ByteArray) (op : Int) (A : Option Addr) (len cap : Nat) (w : World) (_ : len ≤ 9223372036854775807) (T : Tabs w) :
    Calls Tryz.prog 168 #[.agg #[], .agg #[.int .i64 op, .int .i64 n, .string s, .slice A len cap]] w (BoolB (fitB 13 n s len) w) := by
  have hb := two_boxes w (.cells #[] 103) (.cells #[.int .i64 op, .int .i64 n, .string s, .slice A len cap] 24)
  by_cases h0 : n = 0
  · subst h0
    have CN := Lib.hid (implIsName_any s _ (T.below hb))
    have HF := Lib.hid (fitB_call 0 s len)
    clear T
    generalize nameB s = b at *
    cases b
    all_goals
      go_enter Tryz.func168, Tryz.ntmps168
      go_wp2_with fail
      refine CN.out.mono ?_
      rintro e w' ⟨rfl, rfl⟩
      go_wp2
      go_ret
      exact ⟨ret_bool (by rw [HF.out, Bool.eq_iff_iff]; simp <;> omega), hb⟩
  · have b1 := beq_no h0
    have HH := Lib.hid h0
    clear h0 T
    go_enter Tryz.func168, Tryz.ntmps168
    go_wp2
    go_ret
    exact ⟨ret_bool (by rw [fitB_call]; simp [HH.out]), hb⟩
set_option maxHeartbeats 1000000 in
theorem fits_ahead (z l : Int) (sg : ByteArray) (n : Int) (s : ByteArray) (op : Int) (A : Option Addr) (len cap : Nat) (w : World) (_ : len ≤ 9223372036854775807) (ho : op = 11 ∨ op = 12) :
    Calls Tryz.prog 166 #[.agg #[.int .i64 z, .string sg, .int .i64 l], .agg #[.int .i64 op, .int .i64 n, .string s, .slice A len cap]] w (BoolB (fitB op n s len) w) := by
  have hb := two_boxes w (.cells #[.int .i64 z, .string sg, .int .i64 l] 102) (.cells #[.int .i64 op, .int .i64 n, .string s, .slice A len cap] 24)
  have HF := Lib.hid (fitB_un ho n s len)
  clear ho
  generalize fitB op n s len = b at *
  by_cases h0 : n = 0
  · subst h0
    by_cases h2 : s = ⟨#[]⟩
    · subst h2
      go_enter Tryz.func166, Tryz.ntmps166
      go_wp2
      go_ret
      exact ⟨ret_bool (by rw [HF.out]; have hz : (⟨#[]⟩ : ByteArray).size = 0 := rfl; rw [Bool.eq_iff_iff, beq_iff_eq, decide_eq_true_eq]; exact ⟨fun h => ⟨by trivial, hz, by omega⟩, fun h => by have := h.2.2; omega⟩), hb⟩
    · obtain ⟨e1, e2⟩ := full_str h2
      have HH := Lib.hid h2
      clear h2
      go_enter Tryz.func166, Tryz.ntmps166
      go_wp2
      go_ret
      exact ⟨ret_bool (by rw [HF.out, eq_comm, decide_eq_false_iff_not]; exact fun h => HH.out (size_zero h.2.1)), hb⟩
  · have b1 := beq_no h0
    have HH := Lib.hid h0
    clear h0
    go_enter Tryz.func166, Tryz.ntmps166
    go_wp2
    go_ret
    exact ⟨ret_bool (by rw [HF.out, eq_comm, decide_eq_false_iff_not]; exact fun h => HH.out h.1), hb⟩
set_option maxHeartbeats 1000000 in
theorem fits_between (z l : Int) (sg : ByteArray) (n : Int) (s : ByteArray) (op : Int) (A : Option Addr) (len cap : Nat) (w : World) (_ : len ≤ 9223372036854775807) (ho : 3 ≤ op ∧ op ≤ 10) :
    Calls Tryz.prog 165 #[.agg #[.int .i64 z, .string sg, .int .i64 l], .agg #[.int .i64 op, .int .i64 n, .string s, .slice A len cap]] w (BoolB (fitB op n s len) w) := by
  have hb := two_boxes w (.cells #[.int .i64 z, .string sg, .int .i64 l] 100) (.cells #[.int .i64 op, .int .i64 n, .string s, .slice A len cap] 24)
  have HF := Lib.hid (fitB_bin ho n s len)
  clear ho
  generalize fitB op n s len = b at *
  by_cases h0 : n = 0
  · subst h0
    by_cases h2 : s = ⟨#[]⟩
    · subst h2
      go_enter Tryz.func165, Tryz.ntmps165
      go_wp2
      go_ret
      exact ⟨ret_bool (by rw [HF.out]; have hz : (⟨#[]⟩ : ByteArray).size = 0 := rfl; rw [Bool.eq_iff_iff, beq_iff_eq, decide_eq_true_eq]; exact ⟨fun h => ⟨by trivial, hz, by omega⟩, fun h => by have := h.2.2; omega⟩), hb⟩
    · obtain ⟨e1, e2⟩ := full_str h2
      have HH := Lib.hid h2
      clear h2
      go_enter Tryz.func165, Tryz.ntmps165
      go_wp2
      go_ret
      exact ⟨ret_bool (by rw [HF.out, eq_comm, decide_eq_false_iff_not]; exact fun h => HH.out (size_zero h.2.1)), hb⟩
  · have b1 := beq_no h0
    have HH := Lib.hid h0
    clear h0
    go_enter Tryz.func165, Tryz.ntmps165
    go_wp2
    go_ret
    exact ⟨ret_bool (by rw [HF.out, eq_comm, decide_eq_false_iff_not]; exact fun h => HH.out h.1), hb⟩
set_option maxHeartbeats 1000000 in
theorem fits_strange (n : Int) (s : ByteArray) (op : Int) (A : Option Addr) (len cap : Nat) (w : World) (ho : ¬ (1 ≤ op ∧ op ≤ 13)) :
    Calls Tryz.prog 171 #[.agg #[], .agg #[.int .i64 op, .int .i64 n, .string s, .slice A len cap]] w (BoolB (fitB op n s len) w) := by
  rw [fitB_no ho]
  clear ho
  go_enter Tryz.func171, Tryz.ntmps171
  go_wp2
  go_ret
  exact ⟨rfl, two_boxes _ _ _⟩
theorem kindV_un {op : Int} (h : op = 11 ∨ op = 12) : kindV op = .iface 102 (.agg #[.int .i64 op, .string (sgnS op), .int .i64 (lvl op : Int)]) := by
  rcases h with rfl | rfl <;> rfl
theorem kindV_bin {op : Int} (h : 3 ≤ op ∧ op ≤ 10) : kindV op = .iface 100 (.agg #[.int .i64 op, .string (sgnS op), .int .i64 (lvl op : Int)]) := by
  have : op = 3 ∨ op = 4 ∨ op = 5 ∨ op = 6 ∨ op = 7 ∨ op = 8 ∨ op = 9 ∨ op = 10 := by omega
  rcases this with rfl | rfl | rfl | rfl | rfl | rfl | rfl | rfl <;> rfl
theorem kindV_no {op : Int} (h : ¬ (1 ≤ op ∧ op ≤ 13)) : kindV op = .iface 142 (.agg #[]) := by
  unfold kindV
  rw [if_neg (by omega), if_neg (by omega), if_neg (by omega), if_neg (by omega), if_neg (by omega)]
end Go.Proofs.YtkhcfhhejmkikaaGreatDoor

namespace Go.Proofs.YtkhcfhhejmkikaaGreatDoor
open Go.ChangeShapes Go.WideShapes Go.ChangeAt Go.RowKit Go.WideMaps Go.Deep
set_option maxRecDepth 100000

theorem flat_chunks : ∀ (rows : List (List Value)) (cs : List Value), cs.length = rows.length * 3 → (∀ i r, rows[i]? = some r → (cs.drop (i * 3)).take 3 = r) → cs = rows.flatten
  | [], cs, h, _ => by
    have : cs = [] := List.length_eq_zero_iff.1 (by simpa using h)
    subst this; rfl
  | r :: rows, cs, h, hr => by
    have h0 := hr 0 r rfl
    rw [Nat.zero_mul, List.drop_zero] at h0
    have ih := flat_chunks rows (cs.drop 3) (by rw [List.length_drop, h, List.length_cons]; omega) (fun i r' h' => by
      have := hr (i + 1) r' (by simpa using h')
      rw [List.drop_drop]
      have e : 3 + i * 3 = (i + 1) * 3 := by omega
      rw [e]; exact this)
    rw [List.flatten_cons, ← ih, ← h0, List.take_append_drop]
section
variable {H : Type} {enc : TypeId × Value → H} {P : Program} {w : World} {base : Nat} {spare : Nat → Bool} {held : Bool}
theorem row3_trod {e : TypeId} {f0 f1 f2 : Field} {n : Nat} {cs : List Value} {a b : Int} {z : List UInt8} {p : List MemPlace} (he : P.underlying e = some (.struct #[f0, f1, f2])) (hone : oneCellFields P #[f0, f1, f2] = true) (hC : P.cellsOf e = 3)
    (hi : P.underlying f0.type = some (.int .i64)) (hs : P.underlying f1.type = some .string) (hj : P.underlying f2.type = some (.int .i64))
    (h : DataW.trod enc P w base spare held n e cs = some (.agg [.lit (.int .i64 a), .lit (.string z), .lit (.int .i64 b)], p)) : cs = [.int .i64 a, .string ⟨z.toArray⟩, .int .i64 b] := by
  obtain ⟨ys, n', _, hx, hl, hyl, hf⟩ := DataW.trod_struct he h
  rw [hC] at hl
  obtain ⟨o0, c0⟩ := hone_of hone 0 f0 rfl
  obtain ⟨o1, c1⟩ := hone_of hone 1 f1 rfl
  obtain ⟨o2, c2⟩ := hone_of hone 2 f2 rfl
  match cs, hl with
  | [u, v, t], _ =>
    match ys, hyl with
    | [y0, y1, y2], _ =>
      have h0 := hf 0 f0 rfl
      have h1 := hf 1 f1 rfl
      have h2 := hf 2 f2 rfl
      rw [o0, c0] at h0
      rw [o1, c1] at h1
      rw [o2, c2] at h2
      obtain ⟨k, e1, q1, _⟩ := DataW.trod_int hi (show DataW.trod enc P w base spare held n' f0.type [u] = some y0 from h0)
      obtain ⟨s, e2, q2, _⟩ := DataW.trod_string hs (show DataW.trod enc P w base spare held n' f1.type [v] = some y1 from h1)
      obtain ⟨m, e3, q3, _⟩ := DataW.trod_int hj (show DataW.trod enc P w base spare held n' f2.type [t] = some y2 from h2)
      injection e1 with e1 _
      injection e2 with e2 _
      injection e3 with e3 _
      subst e1; subst e2; subst e3; subst q1; subst q2; subst q3
      have := congrArg Prod.fst hx
      simp at this
      obtain ⟨r1, r2, r3⟩ := this
      subst r1; subst r2; subst r3
      rfl
theorem vars_len {ns : List String} : ∀ {gs : List (DataW H)} {ps : List MemPlace}, DataW.TrodVars enc P w spare ns gs ps → gs.length = ns.length := by
  induction ns with
  | nil => intro gs ps h; cases gs with
    | nil => rfl
    | cons _ _ => cases h
  | cons n ns ih => intro gs ps h; cases gs with
    | nil => cases h
    | cons d gs =>
      obtain ⟨_, _, _, _, _, _, _, _, _, _, h5, _⟩ := h
      rw [List.length_cons, ih h5]; rfl
theorem vars_three {a b c : String} {gs : List (DataW H)} {ps : List MemPlace} (h : DataW.TrodVars enc P w spare [a, b, c] gs ps) : ∃ x y z, gs = [x, y, z] := by
  match gs, vars_len h with
  | [x, y, z], _ => exact ⟨x, y, z, rfl⟩
theorem vars_one {a : String} {gs : List (DataW H)} {ps : List MemPlace} (h : DataW.TrodVars enc P w spare [a] gs ps) : ∃ x, gs = [x] := by
  match gs, vars_len h with
  | [x], _ => exact ⟨x, rfl⟩
def rowData {H : Type} (r : Int × List UInt8 × Int) : DataW H := .agg [.lit (.int .i64 r.1), .lit (.string r.2.1), .lit (.int .i64 r.2.2)]
def rowCells3 (r : Int × List UInt8 × Int) : List Value := [.int .i64 r.1, .string ⟨r.2.1.toArray⟩, .int .i64 r.2.2]
theorem cells_of_rows {t e : TypeId} {f0 f1 f2 : Field} {fuel m : Nat} {cs : List Value} {rows : List (Int × List UInt8 × Int)} {p : List MemPlace} (ht : P.underlying t = some (.array m e)) (he : P.underlying e = some (.struct #[f0, f1, f2])) (hone : oneCellFields P #[f0, f1, f2] = true) (hC : P.cellsOf e = 3) (hct : P.cellsOf t = m * 3)
    (hi : P.underlying f0.type = some (.int .i64)) (hs : P.underlying f1.type = some .string) (hj : P.underlying f2.type = some (.int .i64))
    (h : DataW.trod enc P w base spare held fuel t cs = some (.agg (rows.map rowData), p)) : cs = (rows.map rowCells3).flatten := by
  obtain ⟨xs, k, _, hx, hl, hxl, hel⟩ := DataW.trod_array ht h
  have hxs : xs.map (·.1) = rows.map (rowData (H := H)) := by
    have := congrArg Prod.fst hx
    simpa using this.symm
  have hrl : rows.length = m := by
    have := congrArg List.length hxs
    simp at this
    omega
  refine flat_chunks _ _ (by rw [hl, hct, List.length_map, hrl]) (fun i r hr => ?_)
  rw [List.getElem?_map, Option.map_eq_some_iff] at hr
  obtain ⟨row, hrow, rfl⟩ := hr
  have hi' : i < m := by rw [← hrl]; exact (List.getElem?_eq_some_iff.1 hrow).1
  have hf := hel i hi'
  rw [hC, List.getElem?_eq_getElem (by omega)] at hf
  have hd : (xs[i]'(by omega)).1 = rowData row := by
    have := congrArg (·[i]?) hxs
    simp only [List.getElem?_map] at this
    rw [List.getElem?_eq_getElem (by omega), hrow] at this
    simpa using this
  have hy : xs[i]'(by omega) = (rowData row, (xs[i]'(by omega)).2) := Prod.ext hd rfl
  rw [hy] at hf
  exact row3_trod he hone hC hi hs hj hf
end
def sgRows : List (Int × List UInt8 × Int) := [(3, [43], 3), (4, [45], 3), (5, [42], 4), (6, [47], 4), (7, [37], 4), (8, [60], 2), (9, [61], 2), (10, [38], 1), (11, [33], 5), (12, [64], 5)]
theorem signedOps_data : (Rows.laid_loop_example_wholeway_impl_signedOps : DataW Unit) = .agg (sgRows.map rowData) := by kernel_rfl
theorem sgRows_cells : (sgRows.map rowCells3).flatten = sgCells := by kernel_rfl
theorem sgn_of_laid {W : World} {l : List (String × DataW Unit)} (h : laidMet Tryz.prog l W) (h1 : ("loop.example/wholeway/impl.signedOps", Rows.laid_loop_example_wholeway_impl_signedOps) ∈ l) : Sgn W := by
  obtain ⟨ps, hv, _, _⟩ := h
  obtain ⟨g1, t1, cs1, f1, p1, hg1, ht1, hv1, hd1⟩ := laid_get hv h1
  obtain rfl := Option.some.inj ((show Tryz.prog.globalNamed "loop.example/wholeway/impl.signedOps" = some 0 by kernel_rfl).symm.trans hg1)
  obtain rfl := Option.some.inj ((show (Tryz.prog.globals[0]?).map (·.type) = some 141 by kernel_rfl).symm.trans ht1)
  rw [signedOps_data] at hd1
  have e1 := cells_of_rows Tryz.underlying141 Tryz.underlying98 (by kernel_rfl) (by kernel_rfl) (by kernel_rfl) Tryz.underlying3 Tryz.underlying9 Tryz.underlying3 hd1
  rw [sgRows_cells] at e1
  have b1 : ∃ t fr, W.heap[0]? = some (.cells cs1 t fr) := by
    unfold World.var? at hv1
    simp only [hg1, Option.bind_some] at hv1
    split at hv1
    · rename_i c t fr hc
      cases hv1
      exact ⟨t, fr, hc⟩
    · cases hv1
  obtain ⟨t, fr, hb⟩ := b1
  refine ⟨t, fr, ?_⟩
  have : cs1 = sgCells.toArray := by rw [← e1]
  rw [hb, this]
end Go.Proofs.YtkhcfhhejmkikaaGreatDoor

namespace Go.Proofs.YtkhcfhhejmkikaaGreatDoor
open Go.ChangeShapes Go.WideShapes Go.ChangeAt Go.RowKit Go.WideMaps Go.Deep

section
variable {H : Type} {enc : TypeId × Value → H} {P : Program} {w : World} {base : Nat} {spare : Nat → Bool} {held : Bool}
theorem word_trod {e : TypeId} {f0 f1 : Field} {n : Nat} {cs : List Value} {x : DataW H × List MemPlace} (he : P.underlying e = some (.struct #[f0, f1])) (hone : oneCellFields P #[f0, f1] = true) (hC : P.cellsOf e = 2)
    (hi : P.underlying f0.type = some (.int .i64)) (hs : P.underlying f1.type = some .string) (h : DataW.trod enc P w base spare held n e cs = some x) :
    ∃ (k : Int) (s : ByteArray), cs = [.int .i64 k, .string s] ∧ s.size ≤ maxLen := by
  obtain ⟨ys, n', _, _, hl, hyl, hf⟩ := DataW.trod_struct he h
  rw [hC] at hl
  obtain ⟨o0, c0⟩ := hone_of hone 0 f0 rfl
  obtain ⟨o1, c1⟩ := hone_of hone 1 f1 rfl
  match cs, hl with
  | [a, b], _ =>
    match ys, hyl with
    | [y0, y1], _ =>
      have h0 := hf 0 f0 rfl
      have h1 := hf 1 f1 rfl
      rw [o0, c0] at h0
      rw [o1, c1] at h1
      obtain ⟨k, e1, _, _⟩ := DataW.trod_int hi (show DataW.trod enc P w base spare held n' f0.type [a] = some y0 from h0)
      obtain ⟨s, e2, _, e3⟩ := DataW.trod_string hs (show DataW.trod enc P w base spare held n' f1.type [b] = some y1 from h1)
      injection e1 with e1 _
      injection e2 with e2 _
      subst e1; subst e2
      exact ⟨k, s, rfl, e3⟩

theorem open_word {r : Reach} {b0 : Nat} {e : TypeId} {f0 f1 : Field} {v : Value} {d : DataW H} {p : List MemPlace} (he : P.underlying e = some (.struct #[f0, f1])) (hone : oneCellFields P #[f0, f1] = true) (hC : P.cellsOf e = 2)
    (hi : P.underlying f0.type = some (.int .i64)) (hs : P.underlying f1.type = some .string) (hv : Value.okWide P w r b0 e v) (h : DataW.Trod enc P w base spare held e v d p) :
    ∃ (k : Int) (s : ByteArray), v = .agg #[.int .i64 k, .string s] ∧ s.size ≤ maxLen := by
  obtain ⟨cs, rfl, hsz⟩ := okWide_struct he hv
  obtain ⟨n, hn⟩ := h
  obtain ⟨k, s, e1, e2⟩ := word_trod he hone hC hi hs hn
  refine ⟨k, s, ?_, e2⟩
  congr 1
  exact Array.ext' (by simpa [Value.cells] using e1)

theorem cell_addr {a : Addr} {v : Value} (h : w.cell? a = some v) : a = ⟨a.block, a.off, none⟩ ∧ a.block < w.heap.size := by
  obtain ⟨b, o, x⟩ := a
  unfold World.cell? at h
  cases hb : w.heap[b]? with
  | none => rw [hb] at h; simp at h
  | some ob =>
    have hlt : b < w.heap.size := (Array.getElem?_eq_some_iff.1 hb).1
    rw [hb] at h
    cases ob with
    | cells c t fr =>
      simp only at h
      split at h
      · cases h
      · rename_i hx
        cases x with
        | none => exact ⟨rfl, hlt⟩
        | some y => simp at hx
    | _ => simp at h

theorem open_words {r : Reach} {b0 : Nat} {t e : TypeId} {f0 f1 : Field} {v : Value} {d : DataW H} {p : List MemPlace} (ht : P.underlying t = some (.slice e)) (he : P.underlying e = some (.struct #[f0, f1])) (hone : oneCellFields P #[f0, f1] = true) (hC : P.cellsOf e = 2)
    (hi : P.underlying f0.type = some (.int .i64)) (hs : P.underlying f1.type = some .string) (hv : Value.okWide P w r b0 t v) (h : DataW.Trod enc P w base spare held t v d p) :
    ∃ (A : Option Addr) (ws : List (Int × ByteArray)) (cap : Nat), v = .slice A ws.length cap ∧ Words w w.heap.size A ws ∧ (∀ x ∈ ws, x.2.size ≤ maxLen) ∧ ws.length ≤ 9223372036854775807 := by
  obtain ⟨A, len, cap, rfl⟩ := okWide_slice ht hv
  obtain ⟨n, hn⟩ := h
  rcases open_slice ht hn with ⟨h0, _⟩ | ⟨a, len', cap', m, n', D, Pl, hcs, _, hl, hm, hmm, hxx, hx⟩
  · simp only [Value.cells, List.cons.injEq, Value.slice.injEq, and_true] at h0
    obtain ⟨rfl, rfl, rfl⟩ := h0
    exact ⟨none, [], 0, rfl, fun h => absurd rfl h, (fun x hx => by cases hx), by simp⟩
  · simp only [Value.cells, List.cons.injEq, Value.slice.injEq, and_true] at hcs
    obtain ⟨rfl, rfl, rfl⟩ := hcs
    have hlm : len ≤ m := by rw [hmm]; split <;> omega
    have each : ∀ i, i < len → ∃ (k : Int) (s : ByteArray), w.cell? (a.add (i * 2)) = some (.int .i64 k) ∧ w.cell? (a.add (i * 2 + 1)) = some (.string s) ∧ s.size ≤ maxLen := by
      intro i hi'
      obtain ⟨cs', hc, htr⟩ := hx i (by omega)
      rw [hC] at hc
      obtain ⟨k, s, rfl, e3⟩ := word_trod he hone hC hi hs htr
      obtain ⟨_, _, hat⟩ := World.cells?_some hc
      have c0 := hat 0 (by omega)
      have c1 := hat 1 (by omega)
      rw [add_add] at c0 c1
      exact ⟨k, s, c0, c1, e3⟩
    obtain ⟨ws, hwl, hws⟩ : ∃ ws : List (Int × ByteArray), ws.length = len ∧ ∀ i, (h : i < ws.length) → w.cell? (a.add (i * 2)) = some (.int .i64 ws[i].1) ∧ w.cell? (a.add (i * 2 + 1)) = some (.string ws[i].2) ∧ ws[i].2.size ≤ maxLen := by
      clear hx hm hlm hmm hl hv hn hxx
      induction len with
      | zero => exact ⟨[], rfl, fun i h => absurd h (by simp)⟩
      | succ len ih =>
        obtain ⟨ws, e1, e2⟩ := ih (fun i h => each i (by omega))
        obtain ⟨k, s, c0, c1, c2⟩ := each len (by omega)
        refine ⟨ws ++ [(k, s)], by simp [e1], fun i h => ?_⟩
        by_cases hi' : i < ws.length
        · rw [List.getElem_append_left hi']; exact e2 i hi'
        · have : i = ws.length := by simp at h; omega
          subst this
          simp only [List.getElem_concat_length]
          rw [e1]
          exact ⟨c0, c1, c2⟩
    subst hwl
    refine ⟨some a, ws, cap, rfl, fun hne => ?_, fun x hx' => ?_, by unfold maxLen at hm; omega⟩
    · have h0 : 0 < ws.length := by cases ws with
        | nil => exact absurd rfl hne
        | cons _ _ => simp
      have c0 := (hws 0 h0).1
      obtain ⟨ea, eb⟩ := cell_addr c0
      obtain ⟨b, o, x⟩ := a
      have hx0 : x = none := by
        have e0 : (⟨b, o, x⟩ : Addr).add (0 * 2) = ⟨b, o, x⟩ := by simp [Addr.add]
        rw [e0] at ea
        injection ea
      subst hx0
      have hadd : ∀ j, (⟨b, o, none⟩ : Addr).add j = ⟨b, o + j, none⟩ := by
        intro j
        unfold Addr.add
        by_cases hj : j = 0
        · rw [if_pos hj, hj, Nat.add_zero]
        · rw [if_neg hj]
      refine ⟨b, o, rfl, ?_, fun k hk => ?_⟩
      · have := hadd (0 * 2); rw [this] at eb; exact eb
      · have := hws k hk
        rw [hadd, hadd] at this
        exact ⟨this.1, this.2.1⟩
    · obtain ⟨j, hj, rfl⟩ := List.getElem_of_mem hx'
      exact (hws j hj).2.2
end
end Go.Proofs.YtkhcfhhejmkikaaGreatDoor

namespace Go.Proofs.YtkhcfhhejmkikaaGreatDoor
open Go.RowKit
set_option maxRecDepth 100000

/-- The mark of a number. -/
def markB (k : Nat) : ByteArray := ⟨(109 :: Lib.decDigits k).toArray⟩
/-- Behind some rounds: what is left of the number, and what is written. -/
def markRel (k0 k : Nat) (out : ByteArray) : Prop := (0 < k ∧ Lib.decDigits k0 = Lib.decDigits k ++ out.data.toList) ∨ (k = 0 ∧ out.data.toList = Lib.decDigits k0)

theorem conv_one (w : World) (n : Int) : (convert 30 9 (.slice (some ⟨w.heap.size, 0, none⟩) 1 1)).run Tryz.prog (w.alloc (.cells #[.int .u8 n] 5)) = .ok (.string ⟨#[UInt8.ofNat n.toNat]⟩) (w.alloc (.cells #[.int .u8 n] 5)) := by
  have h := run_convert_bytes_arg (P := Tryz.prog) (w.alloc (.cells #[.int .u8 n] 5)) 30 5 Tryz.underlying30 Tryz.underlying5 w.heap.size 0 1 1 [n] rfl (fun i hi => by
    obtain rfl : i = 0 := by omega
    exact alloc_cell w #[.int .u8 n] 5 (0, 0) 0) 9 Tryz.underlying9
  rw [h]
  rfl
theorem decDigits_step {n : Nat} (h : 0 < n) : Lib.decDigits n = (if n / 10 = 0 then [] else Lib.decDigits (n / 10)) ++ [UInt8.ofNat (48 + n % 10)] := by
  by_cases h10 : n < 10
  · have e1 : n / 10 = 0 := by omega
    have e2 : n % 10 = n := by omega
    rw [if_pos e1, e2, Lib.decDigits_one h10]; rfl
  · rw [if_neg (by omega), Lib.decDigits, dif_neg h10]
theorem markRel_succ {k0 n : Nat} {out : ByteArray} (h : markRel k0 n out) (hn : 0 < n) : markRel k0 (n / 10) ((⟨#[UInt8.ofNat (48 + n % 10)]⟩ : ByteArray) ++ out) := by
  rcases h with ⟨_, h⟩ | ⟨h, _⟩
  · rw [decDigits_step hn] at h
    by_cases e : n / 10 = 0
    · rw [if_pos e] at h
      right
      refine ⟨e, ?_⟩
      rw [h]
      simp
    · rw [if_neg e] at h
      left
      refine ⟨by omega, ?_⟩
      rw [h]
      simp
  · omega
theorem markRel_end {k0 : Nat} {out : ByteArray} (h : markRel k0 0 out) : (⟨#[109]⟩ : ByteArray) ++ out = markB k0 := by
  rcases h with ⟨h, _⟩ | ⟨_, h⟩
  · omega
  · unfold markB
    rw [← h]
    have : out = ⟨out.data.toList.toArray⟩ := by cases out; simp
    rw [this]
    rw [show (⟨#[109]⟩ : ByteArray) = ByteArray.mk [109].toArray from rfl, ByteArray.mk_append_mk]
    simp

set_option maxHeartbeats 1000000 in
theorem markText_any (k0 : Nat) (w : World) (h0 : 0 < k0) (h1 : k0 ≤ 1000000000) :
    Calls Tryz.prog 68 #[.int .i64 k0] w fun e w' => e = .returned (.string (markB k0)) ∧ Below w.heap.size w w' := by
  go_enter Tryz.func68, Tryz.ntmps68
  go_wp2
  go_loopw [0, 3] (fun k o wr => ∃ (n : Nat) (out : ByteArray), n ≤ k0 ∧ k = .int .i64 n ∧ o = .string out ∧ out.size + n ≤ k0 + 20 ∧ markRel k0 n out ∧ Below w.heap.size w wr) (fun k _ _ => (intOf k).toNat)
  case atStart => exact ⟨k0, ⟨#[]⟩, Nat.le_refl _, rfl, rfl, by show 0 + k0 ≤ k0 + 20; omega, .inl ⟨h0, by simp⟩, Below.refl _ _⟩
  case round =>
    obtain ⟨n, out, hn, rfl, rfl, ho, hrel, hb⟩ := hrel
    have HR := Lib.hid hrel
    clear hrel
    by_cases hpos : 0 < n
    · have hcv := conv_one wr (48 + (n : Int) % 10)
      have hx : ((48 + (n : Int) % 10).toNat) = 48 + n % 10 := by omega
      rw [hx] at hcv
      clear hx
      have HS := Lib.hid (markRel_succ HR.out hpos)
      have hlen : ((⟨#[UInt8.ofNat (48 + n % 10)]⟩ : ByteArray)).size = 1 := rfl
      have hout : out.size ≤ k0 + 20 := by omega
      generalize hdd : (⟨#[UInt8.ofNat (48 + n % 10)]⟩ : ByteArray) = d at *
      clear hdd
      have hd1 : d.size ≤ 1 := by omega
      have HL := Lib.hid hlen
      clear hlen
      have hb2 := hb.alloc hb.size (.cells #[.int .u8 (48 + (n : Int) % 10)] 5)
      clear hb
      go_wp2
      go_roundw
      case rel => exact ⟨n / 10, d ++ out, by omega, by go_num, rfl, by rw [ByteArray.size_append]; have := HL.out; omega, HS.out, hb2⟩
      case measure => simp only [intOf]; omega
    · obtain rfl : n = 0 := by omega
      clear hpos
      have HE := Lib.hid (markRel_end HR.out)
      have hout : out.size ≤ k0 + 20 := by omega
      go_wp2
      go_ret
      exact ⟨by rw [← HE.out]; rfl, hb⟩

/-- The post of a helper that writes marks. -/
def MarkRet (base e g n cap k0 : Nat) (w : World) (en : Ending) (w' : World) : Prop :=
  en = .returned (.int .i64 ((k0 + n : Nat) : Int)) ∧ (∃ xs', w'.ownsRow base e 1 (.slice (some ⟨g, 0, none⟩) n cap) n xs' ∧ ∀ j, j < n → xs'[j]? = some (.string (markB (k0 + j)))) ∧ Below base w w'


end Go.Proofs.YtkhcfhhejmkikaaGreatDoor
