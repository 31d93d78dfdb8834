/-
  The law that a name is a text with one word, which is a name, and that no key is one: its walk.
-/
import Derived.Test.YtcgjlfkjcgpocaaDoorCutLaw
import Derived.Test.YtcgjlfkjcgpocaaDoorDraw5
import Derived.Test.YtcgjlfkjcgpocaaDoorKW
import Derived.Test.YtcgjlfkjcgpocaaDoorCutL2
import Derived.Test.YtcgjlfkjcgpocaaDoorB0
namespace Go.Proofs.YtcgjlfkjcgpocaaDoor
open Go.RowKit
set_option maxRecDepth 100000

def namesA : List ByteArray := [⟨#[]⟩, ⟨#[]⟩, ⟨#[]⟩, ⟨#[97]⟩, ⟨#[98, 99]⟩]
theorem namesA_le : ∀ s ∈ namesA, s.size ≤ 9 := by decide
set_option maxHeartbeats 2000000 in
theorem drawIsName_any (A : Option Addr) (l : List UInt8) (cap : Nat) (w : World) (h : Bytes w w.heap.size A l) (hn : l.length ≤ cap) (hcap : cap ≤ 9223372036854775807) :
    Calls Tryd.prog 15 #[.slice A l.length cap] w (TextDraw w) := by
  have OP := Lib.hid (l30Open_any A l cap w h hn hcap)
  have BD := fun W hR => Lib.hid (l1Bad_any w.heap.size 0 W hR (by omega))
  have OA := fun q W hR hq => Lib.hid (of_lit w.heap.size q namesA W 9 (0, 0) hR hq (by decide) (by decide))
  clear h
  go_enter Tryd.func15, Tryd.ntmps15
  go_wp2_with fail
  refine OP.out.mono ?_
  rintro e w1 ⟨rfl, hR1, hb1⟩
  have BD1 := Lib.hid (BD w1 hR1).out
  clear OP BD hR1
  go_wp2_with fail
  refine BD1.out.mono ?_
  rintro e w2 ⟨s, hs, rfl, hd2⟩
  obtain ⟨q2, hq2, hR2⟩ := hd2.1
  have hb2 := hb1.trans hd2.2
  have OA2 := Lib.hid (OA q2 w2 hR2 (by omega)).out
  clear BD1 OA hd2 hR2
  go_wp2_with fail
  refine OA2.out.mono ?_
  rintro e w3 ⟨t, ht, rfl, hd3⟩
  have hz := namesA_le t ht
  have hb3 := hb2.trans hd3.2
  have hq : ¬ (9223372036854775807 < s.size + t.size) := by omega
  clear OA2 ht hd3
  go_wp2_with fail
  go_ret
  exact ⟨s ++ t, by rw [ByteArray.size_append]; omega, rfl, hb3⟩
theorem name_one {s : ByteArray} (h : nameB s = true) : cutRes s = ([(1, s)], true) := by
  have hv : validB 1 s = true := h
  have hz := validB_size hv
  exact cutRes_yes (by omega) (by rw [cut_list]; exact cutL_one hv) (by simp)
theorem one_name {s : ByteArray} (h : cutRes s = ([(1, s)], true)) : nameB s = true := by
  have := cutRes_valid s
  rw [h] at this
  exact this (1, s) (by simp)
theorem key_not_name {k : Nat} (hk : k < 9) : nameB (keyB k) = false := nameB_key (isKeyB_yes hk rfl)
theorem key_valid {k : Nat} (hk : k < 9) : validB 4 (keyB k) = true := by
  show (if (4 : Int) = 1 then _ else if (4 : Int) = 2 then _ else if (4 : Int) = 3 then _ else if (4 : Int) = 4 then isKeyB (keyB k) else false) = true
  rw [if_neg (by decide), if_neg (by decide), if_neg (by decide), if_pos rfl]
  exact isKeyB_yes hk rfl
theorem keyArr_cell (w : World) (k : Nat) (hk : k < 9) : (w.alloc keyArr).cell? ⟨w.heap.size, k, none⟩ = some (.string (keyB k)) := by
  have := alloc_cell w keyCells.toArray 56 (0, 0) k
  rw [List.getElem?_toArray, keyCells_at k hk] at this
  exact this
set_option maxHeartbeats 4000000 in
theorem fnNames_walk (A : Option Addr) (l : List UInt8) (cap : Nat) (w : World) (hB : Bytes w w.heap.size A l) (hn : l.length ≤ cap) (hcap : cap ≤ 9223372036854775807) (T : Tabs w) (N : NTabs w) :
    Calls Tryd.prog 4 #[.slice A l.length cap] w fun e w' => e = .returned (.bool true) ∧ Below w.heap.size w w' := by
  by_cases hl : 1048576 < l.length
  · clear hB T N
    go_enter Tryd.func4, Tryd.ntmps4
    go_wp2
    go_ret
    exact ⟨rfl, Below.refl _ _⟩
  have hl' : l.length ≤ 1048576 := by omega
  have DC := Lib.hid (drawIsName_any A l cap w hB hn hcap)
  clear hl hB
  go_enter Tryd.func4, Tryd.ntmps4
  go_wp2_with fail
  refine DC.out.mono ?_
  rintro e w1 ⟨s, hs, rfl, hb1⟩
  clear DC
  have T1 := T.below hb1
  have N1 := N.below hb1
  clear T N
  have IN := Lib.hid (implIsName_any s w1 T1)
  have SN := Lib.hid (specIsName_any s w1 (by unfold maxLen; omega))
  have IC := fun W h h' => Lib.hid (implCutWords_any s W (by omega) h h')
  have HN1 := Lib.hid (show nameB s = true → cutRes s = ([(1, s)], true) from name_one)
  have HN2 := Lib.hid (show cutRes s = ([(1, s)], true) → nameB s = true from one_name)
  have HV := Lib.hid (cutRes_len s)
  generalize cutRes s = cr at *
  generalize nameB s = nm at *
  go_wp2_with fail
  refine IN.out.mono ?_
  rintro e w2 ⟨rfl, rfl⟩
  go_wp2_with fail
  refine SN.out.mono ?_
  rintro e w3 ⟨rfl, hb3⟩
  have q1 : (nm != nm) = false := by simp
  have T3 := T1.below hb3
  have N3 := N1.below hb3
  have IC1 := Lib.hid (IC w3 T3 N3).out
  have hb03 := hb1.trans (hb3.mono hb1.size)
  clear IN SN IC T1 N1 hb1 hb3
  obtain ⟨ws, ok⟩ := cr
  go_wp2_with fail
  refine IC1.out.mono ?_
  rintro e w4 ⟨⟨v4, rfl, hO4⟩, hb4⟩
  obtain ⟨A4, cap4, rfl, hW4⟩ := words_own hO4
  have hb04 := hb03.trans (hb4.mono hb03.size)
  have T4 := Lib.hid (T3.below hb4)
  have N4 := Lib.hid (N3.below hb4)
  clear IC1 hO4 hb03 hb4 T3 N3 q1
  have hlen : ws.length ≤ 600 := HV.out
  go_upto_region 8 with (fail)
  go_cut [7] (fun v wx => v = .bool nm ∧ wx = w4)
  case first =>
    clear T4 N4 HV
    cases nm
    · cases ok
      · clear HN1 HN2
        go_wp2
        go_meet
        exact ⟨rfl, rfl⟩
      · by_cases h1 : ws.length = 1
        · obtain ⟨y, rfl⟩ : ∃ y, ws = [y] := List.length_eq_one_iff.1 h1
          obtain ⟨b, o, rfl, hB, c1, c2⟩ := hW4.at_ (k := 0) (by simp)
          have hne : y ≠ (1, s) := fun e => by have := HN2.out (by rw [e]); cases this
          replace c1 : w4.cell? ⟨b, o, none⟩ = some (.int .i64 y.1) := by simpa using c1
          replace c2 : w4.cell? ⟨b, o + 1, none⟩ = some (.string y.2) := by simpa using c2
          have hlen1 : (([y] : List (Int × ByteArray)).length : Int) = 1 := rfl
          obtain ⟨y1, y2⟩ := y
          dsimp only at c1 c2
          clear HN1 HN2 hW4 h1 hlen
          by_cases e1 : y1 = 1
          · have e2 : y2 ≠ s := fun e => hne (by rw [e1, e])
            have b1 := beq_yes e1
            have b2 := str_eq_false e2
            clear hne e1 e2
            go_wp2
            go_meet
            exact ⟨rfl, rfl⟩
          · have b1 := beq_no e1
            clear hne e1
            go_wp2
            go_meet
            exact ⟨rfl, rfl⟩
        · have b0 : ((ws.length : Int) == 1) = false := beq_no (by omega)
          clear HN1 HN2 h1
          go_wp2
          go_meet
          exact ⟨rfl, rfl⟩
    · have e0 := HN1.out rfl
      injection e0 with e1 e2
      subst e1 e2
      obtain ⟨b, o, rfl, hB, c1, c2⟩ := hW4.at_ (k := 0) (by simp)
      replace c1 : w4.cell? ⟨b, o, none⟩ = some (.int .i64 1) := by simpa using c1
      replace c2 : w4.cell? ⟨b, o + 1, none⟩ = some (.string s) := by simpa using c2
      have b2 : (s.toList == s.toList) = true := by simp
      have hlen1 : (([(1, s)] : List (Int × ByteArray)).length : Int) = 1 := rfl
      clear HN1 HN2 hW4 hlen
      go_wp2
      go_meet
      exact ⟨rfl, rfl⟩
  case rest =>
    obtain ⟨rfl, rfl⟩ := hcut
    clear hW4 HN1 HN2 HV hlen
    obtain ⟨w4, rfl⟩ : ∃ w4 : World, w4 = wc := ⟨_, rfl⟩
    have IK := Lib.hid (implKeyWords_any w4 ⟨by have := T4.out.size.2; omega, T4.out.keys⟩)
    go_wp2_with fail
    refine IK.out.mono ?_
    rintro e w5 ⟨rfl, hw5⟩
    have C5 := fun k hk => keyArr_cell w4 k hk
    have hb5 : Below w4.heap.size w4 (w4.alloc keyArr) := (Below.refl _ _).alloc (Nat.le_refl _) _
    have hl5 : w4.heap.size < (w4.alloc keyArr).heap.size := by rw [World.size_alloc]; omega
    rw [← hw5] at C5 hb5 hl5
    have SK := Lib.hid (specKeyWords_any w5)
    clear hw5 IK
    go_wp2_with fail
    refine SK.out.mono ?_
    rintro e w6 ⟨rfl, hw6⟩
    have C6 := fun k hk => keyBlock_cell w5 k hk
    have hb6 : Below w5.heap.size w5 (w5.alloc keyBlock) := (Below.refl _ _).alloc (Nat.le_refl _) _
    have hl6 : w5.heap.size < (w5.alloc keyBlock).heap.size := by rw [World.size_alloc]; omega
    rw [← hw6] at C6 hb6 hl6
    have HC6 := Lib.hid C6
    have HC5 := Lib.hid (fun k (hk : k < 9) => (hb6.cell (p := ⟨w4.heap.size, k, none⟩) hl5).trans (C5 k hk))
    have hb46 := hb5.trans (hb6.mono hb5.size)
    have hb06 := hb04.trans (hb46.mono hb04.size)
    have T6 := Lib.hid (T4.out.below hb46)
    have N6 := Lib.hid (N4.out.below hb46)
    have hl56 := Nat.lt_trans hl5 hl6
    clear hw6 SK C5 C6 T4 N4 hb5 hb6 hb46 hb04
    go_wp2_with fail
    go_loopw [46] (fun i wr => ∃ k : Nat, k ≤ 9 ∧ i = .int .i64 k ∧ Below w6.heap.size w6 wr) (fun i _ => 9 - (intOf i).toNat)
    case atStart => exact ⟨0, Nat.zero_le _, rfl, Below.refl _ _⟩
    case round =>
      obtain ⟨k, hk, rfl, hb⟩ := hrel
      by_cases hlk : k < 9
      · have c5 := (hb.cell (p := ⟨w4.heap.size, k, none⟩) hl56).trans (HC5.out k hlk)
        have c6 := (hb.cell (p := ⟨w5.heap.size, k, none⟩) hl6).trans (HC6.out k hlk)
        have CN := implIsName_any (keyB k) wr (T6.out.below hb)
        rw [key_not_name hlk] at CN
        have CV := implWordValid_any 4 (keyB k) wr (by have := keyB_size k hlk; omega) (T6.out.below hb) (N6.out.below hb)
        rw [key_valid hlk] at CV
        clear HC5 HC6
        generalize keyB k = kb at *
        have q1 : (kb.toList == kb.toList) = true := by simp
        replace CN := Lib.hid CN
        replace CV := Lib.hid CV
        have hbs := hb.size
        go_wp2_with fail
        refine Calls.mono CN.out ?_
        rintro ee w7 ⟨rfl, rfl⟩
        go_wp2_with fail
        refine Calls.mono CV.out ?_
        rintro ee w8 ⟨rfl, hb8⟩
        have hb9 := hb.trans (hb8.mono hbs)
        clear CN CV hb hb8 c5 c6
        go_wp2_with fail
        go_roundw
        case rel => exact ⟨k + 1, by omega, by go_num, hb9⟩
        case measure => simp only [intOf]; omega
      · obtain rfl : k = 9 := by omega
        have hb09 := hb06.trans (hb.mono hb06.size)
        have q2 : (nm == nm) = true := by simp
        clear HC5 HC6 hb hb06
        go_wp2_with fail
        go_ret
        exact ⟨rfl, hb09⟩
end Go.Proofs.YtcgjlfkjcgpocaaDoor
