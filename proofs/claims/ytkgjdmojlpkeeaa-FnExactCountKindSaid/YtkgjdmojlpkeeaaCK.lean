/-
  CountKind: the model's and the program's count the same; the law's walk.
-/
import Derived.Test.YtkgjdmojlpkeeaaW1
namespace Go.Proofs.Ytkgjdmojlpkeeaa
open Go.RowKit
set_option maxRecDepth 100000

/-- How many of the first k words are of a kind. -/
def cntK (ws : List (Int × ByteArray)) (kind : Int) : Nat → Nat
  | 0 => 0
  | k + 1 => cntK ws kind k + if (ws.getD k (0, ByteArray.empty)).1 = kind then 1 else 0
theorem cntK_le (ws : List (Int × ByteArray)) (kind : Int) (k : Nat) : cntK ws kind k ≤ k := by
  induction k with
  | zero => exact Nat.le_refl _
  | succ k ih => unfold cntK; split <;> omega
theorem cntK_yes {ws : List (Int × ByteArray)} {kind : Int} {k : Nat} (hk : k < ws.length) (h : ws[k].1 = kind) : cntK ws kind (k + 1) = cntK ws kind k + 1 := by
  show cntK ws kind k + _ = _
  rw [List.getD_eq_getElem?_getD, List.getElem?_eq_getElem hk, Option.getD_some, if_pos h]
theorem cntK_no {ws : List (Int × ByteArray)} {kind : Int} {k : Nat} (hk : k < ws.length) (h : ws[k].1 ≠ kind) : cntK ws kind (k + 1) = cntK ws kind k := by
  show cntK ws kind k + _ = _
  rw [List.getD_eq_getElem?_getD, List.getElem?_eq_getElem hk, Option.getD_some, if_neg h, Nat.add_zero]

set_option maxHeartbeats 400000 in
theorem specCountKind_any (A : Option Addr) (ws : List (Int × ByteArray)) (cap : Nat) (kind : Int) (w : World) (hW : Words w w.heap.size A ws) (hn : ws.length ≤ 1048576) :
    Calls Try.prog 5 #[.slice A ws.length cap, .int .i64 kind] w fun e w' => e = .returned (.int .i64 (cntK ws kind ws.length)) ∧ w = w' := by
  go_enter Try.func5, Try.ntmps5
  go_wp2
  go_loop [5, 6] (fun n i => ∃ k : Nat, k ≤ ws.length ∧ i = .int .i64 k ∧ n = .int .i64 (cntK ws kind k)) (fun _ i => ws.length - (intOf i).toNat)
  case atStart => exact ⟨0, Nat.zero_le _, rfl, rfl⟩
  case round =>
    obtain ⟨k, hk, rfl, rfl⟩ := hrel
    have hle := cntK_le ws kind k
    by_cases hlt : k < ws.length
    · obtain ⟨b, o, rfl, hB, hc1, hc2⟩ := hW.at_ hlt
      by_cases hc : ws[k].1 = kind
      · have HE := Lib.hid (cntK_yes hlt hc)
        have hb : (ws[k].1 == kind) = true := beq_iff_eq.2 hc
        clear hc
        generalize ws[k].1 = n1 at *
        generalize ws[k].2 = s1 at *
        go_wp2
        go_round
        case rel => exact ⟨k + 1, by omega, by go_num, by rw [HE.out]; go_num⟩
        case measure => simp only [intOf]; omega
      · have HE := Lib.hid (cntK_no hlt hc)
        have hb : (ws[k].1 == kind) = false := by rw [beq_eq_false_iff_ne]; exact hc
        clear hc
        generalize ws[k].1 = n1 at *
        generalize ws[k].2 = s1 at *
        go_wp2
        go_round
        case rel => exact ⟨k + 1, by omega, by go_num, by rw [HE.out]⟩
        case measure => simp only [intOf]; omega
    · obtain rfl : k = ws.length := by omega
      go_wp2
      go_ret
      exact ⟨rfl, rfl⟩

set_option maxHeartbeats 400000 in
theorem implCountKind_any (A : Option Addr) (ws : List (Int × ByteArray)) (cap : Nat) (kind : Int) (w : World) (hW : Words w w.heap.size A ws) (hn : ws.length ≤ 1048576) :
    Calls Try.prog 7 #[.slice A ws.length cap, .int .i64 kind] w fun e w' => e = .returned (.int .i64 (cntK ws kind ws.length)) ∧ Below w.heap.size w w' := by
  go_enter Try.func7, Try.ntmps7
  go_wp2
  go_loopw [5, 10] (fun n i wr => ∃ k : Nat, k ≤ ws.length ∧ i = .int .i64 k ∧ n = .int .i64 (cntK ws kind k) ∧ Below w.heap.size w wr) (fun _ i _ => ws.length - (intOf i).toNat)
  case atStart => exact ⟨0, Nat.zero_le _, rfl, rfl, Below.refl _ _⟩
  case round =>
    obtain ⟨k, hk, rfl, rfl, hb⟩ := hrel
    have hle := cntK_le ws kind k
    by_cases hlt : k < ws.length
    · obtain ⟨b, o, rfl, hB, hc1, hc2⟩ := (hW.below hb).at_ hlt
      have hb2 := hb.alloc hb.size (.cells #[.int .i64 ws[k].1, .string ws[k].2] 32)
      clear hb
      by_cases hc : ws[k].1 = kind
      · have HE := Lib.hid (cntK_yes hlt hc)
        have hbb : (ws[k].1 == kind) = true := beq_iff_eq.2 hc
        clear hc
        generalize ws[k].1 = n1 at *
        generalize ws[k].2 = s1 at *
        go_wp2
        go_roundw
        case rel => exact ⟨k + 1, by omega, by go_num, by rw [HE.out]; go_num, hb2⟩
        case measure => simp only [intOf]; omega
      · have HE := Lib.hid (cntK_no hlt hc)
        have hbb : (ws[k].1 == kind) = false := by rw [beq_eq_false_iff_ne]; exact hc
        clear hc
        generalize ws[k].1 = n1 at *
        generalize ws[k].2 = s1 at *
        go_wp2
        go_roundw
        case rel => exact ⟨k + 1, by omega, by go_num, by rw [HE.out], hb2⟩
        case measure => simp only [intOf]; omega
    · obtain rfl : k = ws.length := by omega
      go_wp2
      go_ret
      exact ⟨rfl, hb⟩

/-- A plain post for the walk's end. -/
def TrueBelow (w : World) (e : Ending) (w' : World) : Prop := e = .returned (.bool true) ∧ Below w.heap.size w w'

set_option maxHeartbeats 1000000 in
/-- The law on counts answers true, and turns nothing that was there. -/
theorem fnExactCountKind_walk (A : Option Addr) (ws : List (Int × ByteArray)) (cap : Nat) (kind : Int) (w : World) (hW : Words w w.heap.size A ws) (hs : ∀ x ∈ ws, x.2.size ≤ maxLen) (hn : ws.length ≤ 9223372036854775807) :
    Calls Try.prog 3 #[.slice A ws.length cap, .int .i64 kind] w fun e w' => e = .returned (.bool true) ∧ Below w.heap.size w w' := by
  have hs' := Lib.hid hs
  clear hs
  go_enter Try.func3, Try.ntmps3
  go_wp2_with fail
  refine (szWordS_any A ws cap 1048576 w hW hs'.out hn (by omega) (by omega)).mono ?_
  rintro e w1 ⟨⟨r, rfl, hr0, hr1, hr⟩, hb1⟩
  by_cases hr' : 0 ≤ r
  · have hm := (hr hr').1
    clear hr
    go_wp2_with fail
    refine (toWordS_any A ws cap w1 ((hW.below hb1).more hb1.size) hm).mono ?_
    rintro e w2 ⟨⟨A2, rfl, hW2⟩, hb2⟩
    go_wp2_with fail
    refine (specCountKind_any A2 ws ws.length kind w2 hW2 hm).mono ?_
    rintro e w3 ⟨rfl, rfl⟩
    have hb12 := hb1.trans (hb2.mono hb1.size)
    go_wp2_with fail
    refine (toWordS_any A ws cap w2 ((hW.below hb12).more hb12.size) hm).mono ?_
    rintro e w4 ⟨⟨A4, rfl, hW4⟩, hb4⟩
    have hb14 := hb12.trans (hb4.mono hb12.size)
    go_wp2_with fail
    refine (implCountKind_any A4 ws ws.length kind w4 hW4 hm).mono ?_
    rintro e w5 ⟨rfl, hb5⟩
    have hb15 := hb14.trans (hb5.mono hb14.size)
    have hne : ((cntK ws kind ws.length : Nat) : Int) = ((cntK ws kind ws.length : Nat) : Int) := rfl
    go_wp2_with fail
    refine (toWordS_any A ws cap w5 ((hW.below hb15).more hb15.size) hm).mono ?_
    rintro e w6 ⟨⟨A6, rfl, hW6⟩, hb6⟩
    have hb16 := hb15.trans (hb6.mono hb15.size)
    go_wp2_with fail
    have hW4' : Words w6 w6.heap.size A4 ws := by
      have h1 := hW4.below hb5
      have h2 := h1.below (hb6.mono hb5.size)
      exact h2.more (by have := hb5.size; have := hb6.size; omega)
    refine (eqWordS_any A4 ws ws.length A6 ws ws.length w6 hW4' hW6 (by omega) (by omega)).mono ?_
    rintro e w7 ⟨rfl, hb7⟩
    have hd : decide (ws = ws) = true := by simp
    rw [hd]
    have hb17 := hb16.trans (hb7.mono hb16.size)
    clear hb1 hb2 hb12 hb4 hb14 hb5 hb15 hb6 hb16 hb7 hd hne
    go_wp2
    go_ret
    exact ⟨rfl, hb17⟩
  · clear hr
    go_wp2
    go_ret
    exact ⟨rfl, hb1⟩
end Go.Proofs.Ytkgjdmojlpkeeaa
