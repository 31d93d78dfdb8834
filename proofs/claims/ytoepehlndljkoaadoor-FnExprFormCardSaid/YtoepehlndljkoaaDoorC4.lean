/-
  Words of a kind: what the model's and the program's NumberOf and WordValid return.
-/
import Derived.Test.YtoepehlndljkoaaDoorC3
import Derived.Test.YtoepehlndljkoaaDoorShelf
import Derived.Lib.SmallJoins
import Derived.Lib.AppendIntMem
namespace Go.Proofs.YtoepehlndljkoaaDoor
open Go.RowKit
set_option maxRecDepth 100000

/-- The library's variables stand in the world. -/
structure NTabs (w : World) : Prop where
  syn : ∃ tp p, w.cell? ⟨5, 0, none⟩ = some (.iface tp p)
  rng : ∃ tp p, w.cell? ⟨6, 0, none⟩ = some (.iface tp p)
  pow : Lib.TabIs Tryd.prog w "internal/strconv.uint64pow10" .u64 Lib.pow10Tab
  size : 8 < w.heap.size

theorem NTabs.below {w w' : World} (T : NTabs w) (hb : Below w.heap.size w w') : NTabs w' := by
  obtain ⟨t1, p1, h1⟩ := T.syn
  obtain ⟨t2, p2, h2⟩ := T.rng
  have hsz := T.size
  refine ⟨⟨t1, p1, ?_⟩, ⟨t2, p2, ?_⟩, ?_, by have := hb.size; omega⟩
  · rw [hb.cell (p := ⟨5, 0, none⟩) (by show 5 < w.heap.size; omega)]; exact h1
  · rw [hb.cell (p := ⟨6, 0, none⟩) (by show 6 < w.heap.size; omega)]; exact h2
  · exact var?_below hb (show Tryd.prog.globalNamed "internal/strconv.uint64pow10" = some 4 by kernel_rfl) (by omega) T.pow

/-- The walk's post: a number, and new blocks at most. -/
def IntBelow (n : Int) (w : World) (e : Ending) (w' : World) : Prop := e = .returned (.int .i64 n) ∧ Below w.heap.size w w'
def BoolBelow (b : Bool) (w : World) (e : Ending) (w' : World) : Prop := e = .returned (.bool b) ∧ Below w.heap.size w w'

set_option maxHeartbeats 1000000 in
theorem numberIn_any (s : ByteArray) (w : World) (hs : s.size ≤ 1048576) (T : NTabs w) :
    Calls Tryd.prog 49 #[.string s] w (IntBelow (numB s.data.toList) w) := by
  cases hat : Lib.atoiAll s.data.toList with
  | ok v =>
    have CA := Lib.hid (Tryd.strconv_Atoi_ok s (by omega) v hat w)
    have hbd := Lib.atoiAll_bounds hat
    have hmem : ∀ w', (w' = w ∨ ∃ t, w' = Lib.bytesWorld w 5 t) → Below w.heap.size w w' := by
      rintro w' (rfl | ⟨t, rfl⟩)
      · exact Below.refl _ _
      · exact Go.Joins.below_bytesWorld _ _ _ _ (Nat.le_refl _)
    by_cases h0 : v < 0
    · have hno : numB s.data.toList = -1 := numB_not (fun v' h' h0' => by rw [hat] at h'; cases h'; omega)
      rw [hno]
      clear hat hno
      go_enter Tryd.func49, Tryd.ntmps49
      go_wp2_with fail
      refine CA.out.mono ?_
      rintro e w' ⟨rfl, hw⟩
      have hb := hmem w' hw
      clear hw hmem
      go_wp2
      go_ret
      exact ⟨rfl, hb⟩
    by_cases h1 : 255 < v
    · have hno : numB s.data.toList = -1 := numB_not (fun v' h' h0' => by rw [hat] at h'; cases h'; omega)
      rw [hno]
      clear hat hno
      go_enter Tryd.func49, Tryd.ntmps49
      go_wp2_with fail
      refine CA.out.mono ?_
      rintro e w' ⟨rfl, hw⟩
      have hb := hmem w' hw
      clear hw hmem
      go_wp2
      go_ret
      exact ⟨rfl, hb⟩
    have h0' : 0 ≤ v := by omega
    have h1' : v ≤ 255 := by omega
    clear h0 h1
    have CI := fun W hp => Lib.hid (Tryd.strconv_Itoa v (by omega) (by omega) W hp)
    by_cases he : Lib.itoa v = s.data.toList
    · have hyes := Lib.hid (numB_of_atoi h0' h1' he)
      have hse : (⟨(Lib.itoa v).toArray⟩ : ByteArray) = s := by rw [he]
      have e1 := str_eq_true hse
      generalize (⟨(Lib.itoa v).toArray⟩ : ByteArray) = r at *
      clear he hse hat hbd
      go_enter Tryd.func49, Tryd.ntmps49
      go_wp2_with fail
      refine CA.out.mono ?_
      rintro e w' ⟨rfl, hw⟩
      have hb := hmem w' hw
      clear hw hmem
      go_wp2_with fail
      refine (CI w' (T.below hb).pow).out.mono ?_
      rintro e w2 ⟨rfl, k, os, hw2⟩
      have hb2 : Below w.heap.size w w2 := by
        subst hw2
        exact hb.trans ((Lib.below_grow w'.heap.size w' (Nat.le_refl _) k os).mono hb.size)
      clear hb hw2
      go_wp2
      go_ret
      exact ⟨ret_int hyes.out.symm, hb2⟩
    · have hno := Lib.hid (numB_not (fun v' h' _ _ => by rw [hat] at h'; cases h'; exact he))
      have hse : (⟨(Lib.itoa v).toArray⟩ : ByteArray) ≠ s := by rintro rfl; exact he rfl
      have e1 := str_eq_false hse
      generalize (⟨(Lib.itoa v).toArray⟩ : ByteArray) = r at *
      clear he hse hat hbd
      go_enter Tryd.func49, Tryd.ntmps49
      go_wp2_with fail
      refine CA.out.mono ?_
      rintro e w' ⟨rfl, hw⟩
      have hb := hmem w' hw
      clear hw hmem
      go_wp2_with fail
      refine (CI w' (T.below hb).pow).out.mono ?_
      rintro e w2 ⟨rfl, k, os, hw2⟩
      have hb2 : Below w.heap.size w w2 := by
        subst hw2
        exact hb.trans ((Lib.below_grow w'.heap.size w' (Nat.le_refl _) k os).mono hb.size)
      clear hb hw2
      go_wp2
      go_ret
      exact ⟨ret_int hno.out.symm, hb2⟩
  | _ =>
    have hno : numB s.data.toList = -1 := numB_not (fun v' h' => by rw [hat] at h'; cases h')
    rw [hno]
    obtain ⟨t1, p1, c1⟩ := T.syn
    obtain ⟨t2, p2, c2⟩ := T.rng
    first
      | (have CA := Lib.hid (Any.strconv_Atoi_syntax Tryd.laysC172 s (by omega) hat _ w c1 (Or.inr ⟨t1, p1, rfl⟩)))
      | (have CA := Lib.hid (Any.strconv_Atoi_range Tryd.laysC172 s (by omega) hat _ w c2 (Or.inr ⟨t2, p2, rfl⟩)))
    clear hat hno T c1 c2
    go_enter Tryd.func49, Tryd.ntmps49
    go_wp2_with fail
    refine CA.out.mono ?_
    rintro e w' ⟨N, rfl, hN, _, hb⟩
    clear hN
    go_wp2
    go_ret
    exact ⟨rfl, hb⟩

/-- The text is a sign. -/
def signB (s : ByteArray) : Bool := if h : s.size = 1 then cls (s[0]'(by omega)).toNat == 3 else false
theorem kindN_three (b : UInt8) : (kindN b.toNat == 3) = (cls b.toNat == 3) := by
  have := kindN_cls b.toNat (by have := b.toNat_lt; omega)
  rw [this]
  by_cases h : cls b.toNat = 4
  · rw [if_pos h, h]; rfl
  · rw [if_neg h]
set_option maxHeartbeats 400000 in
theorem isSign_any (s : ByteArray) (w : World) (T : Tabs w) :
    Calls Tryd.prog 50 #[.string s] w fun e w' => e = .returned (.bool (signB s)) ∧ w = w' := by
  by_cases h1 : s.size = 1
  · have e1 : ((s.size : Int) == 1) = true := by rw [beq_iff_eq]; omega
    have hpos : 0 < s.size := by omega
    have hb : signB s = (kindN (s[0]'hpos).toNat == 3) := by unfold signB; rw [dif_pos h1, kindN_three]
    rw [hb]
    clear hb h1
    have C := Lib.hid (kindOfByte_any s[0] w T)
    generalize kindN s[0].toNat = z at *
    go_enter Tryd.func50, Tryd.ntmps50
    go_wp2_with fail
    refine C.out.mono ?_
    rintro e w' ⟨rfl, rfl⟩
    go_wp2
    go_ret
    exact ⟨rfl, rfl⟩
  · have e1 : ((s.size : Int) == 1) = false := by rw [beq_eq_false_iff_ne]; omega
    have hb : signB s = false := by unfold signB; rw [dif_neg h1]
    rw [hb]
    clear hb h1
    go_enter Tryd.func50, Tryd.ntmps50
    go_wp2
    go_ret
    exact ⟨rfl, rfl⟩

/-- The word is one of its kind. -/
noncomputable def validB (n : Int) (s : ByteArray) : Bool :=
  if n = 1 then nameB s else if n = 2 then decide (0 ≤ numB s.data.toList) else if n = 3 then signB s else if n = 4 then isKeyB s else false

set_option maxHeartbeats 1000000 in
theorem implWordValid_any (n : Int) (s : ByteArray) (w : World) (hs : s.size ≤ 1048576) (T : Tabs w) (N : NTabs w) :
    Calls Tryd.prog 31 #[.agg #[.int .i64 n, .string s]] w (BoolBelow (validB n s) w) := by
  have hsz := N.size
  have hb0 : Below w.heap.size w (w.alloc (.cells #[.int .i64 n, .string s] 54)) := (Below.refl _ _).alloc (Nat.le_refl _) _
  have T1 := T.below hb0
  have N1 := N.below hb0
  unfold validB
  by_cases h1 : n = 1
  · subst h1
    rw [if_pos rfl]
    have C := Lib.hid (implIsName_any s _ T1)
    generalize nameB s = b at *
    go_enter Tryd.func31, Tryd.ntmps31
    go_wp2_with fail
    refine C.out.mono ?_
    rintro e w' ⟨rfl, rfl⟩
    go_wp2
    go_ret
    exact ⟨rfl, hb0⟩
  by_cases h2 : n = 2
  · subst h2
    rw [if_neg (by omega), if_pos rfl]
    have C := Lib.hid (numberIn_any s _ hs N1)
    have hr := numB_range s.data.toList
    generalize numB s.data.toList = z at *
    go_enter Tryd.func31, Tryd.ntmps31
    go_wp2_with fail
    refine C.out.mono ?_
    rintro e w' ⟨rfl, hb⟩
    have hb2 := hb0.trans (hb.mono hb0.size)
    clear hb hb0
    go_wp2
    go_ret
    exact ⟨rfl, hb2⟩
  by_cases h3 : n = 3
  · subst h3
    rw [if_neg (by omega), if_neg (by omega), if_pos rfl]
    have C := Lib.hid (isSign_any s _ T1)
    generalize signB s = b at *
    go_enter Tryd.func31, Tryd.ntmps31
    go_wp2_with fail
    refine C.out.mono ?_
    rintro e w' ⟨rfl, rfl⟩
    go_wp2
    go_ret
    exact ⟨rfl, hb0⟩
  by_cases h4 : n = 4
  · subst h4
    rw [if_neg (by omega), if_neg (by omega), if_neg (by omega), if_pos rfl]
    have C := Lib.hid (isKey_any s _ T1)
    generalize isKeyB s = b at *
    go_enter Tryd.func31, Tryd.ntmps31
    go_wp2_with fail
    refine C.out.mono ?_
    rintro e w' ⟨rfl, rfl⟩
    go_wp2
    go_ret
    exact ⟨rfl, hb0⟩
  · rw [if_neg h1, if_neg h2, if_neg h3, if_neg h4]
    have b1 : (n == 1) = false := by rw [beq_eq_false_iff_ne]; exact h1
    have b2 : (n == 2) = false := by rw [beq_eq_false_iff_ne]; exact h2
    have b3 : (n == 3) = false := by rw [beq_eq_false_iff_ne]; exact h3
    have b4 : (n == 4) = false := by rw [beq_eq_false_iff_ne]; exact h4
    clear h1 h2 h3 h4
    go_enter Tryd.func31, Tryd.ntmps31
    go_wp2
    go_ret
    exact ⟨rfl, hb0⟩
end Go.Proofs.YtoepehlndljkoaaDoor
