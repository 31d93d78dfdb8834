/-
  The law that words join just if all of them are valid, and are cut again: its walk.
-/
import Derived.Test.YtcgjlfkjcgpocaaDoorCutLaw
import Derived.Test.YtcgjlfkjcgpocaaDoorListW
import Derived.Test.YtcgjlfkjcgpocaaDoorWW
import Derived.Test.YtcgjlfkjcgpocaaDoorCutL2
import Derived.Test.YtcgjlfkjcgpocaaDoorB0
namespace Go.Proofs.YtcgjlfkjcgpocaaDoor
open Go.RowKit
set_option maxRecDepth 100000

/-- What drawing words leaves. -/
def WordsDraw (w : World) (e : Ending) (w' : World) : Prop := ∃ (A : Option Addr) (ws : List (Int × ByteArray)) (cap : Nat), ws.length ≤ 20 ∧ (∀ x ∈ ws, x.2.size ≤ 300) ∧ e = .returned (.slice A ws.length cap) ∧ Words w' w'.heap.size A ws ∧ Below w.heap.size w w'
set_option maxHeartbeats 1000000 in
theorem drawJoinWords_any (A : Option Addr) (l : List UInt8) (cap : Nat) (w : World) (h : Bytes w w.heap.size A l) (hn : l.length ≤ cap) (hcap : cap ≤ 9223372036854775807) :
    Calls Tryd.prog 24 #[.slice A l.length cap] w (WordsDraw w) := by
  have OP := Lib.hid (l30Open_any A l cap w h hn hcap)
  have LS := fun R W hR => Lib.hid (l1List_any R 0 W hR (by omega))
  clear h
  go_enter Tryd.func24, Tryd.ntmps24
  go_wp2_with fail
  refine OP.out.mono ?_
  rintro e w1 ⟨rfl, hR1, hb1⟩
  have LS1 := LS _ w1 hR1
  clear OP LS hR1
  go_wp2_with fail
  refine LS1.out.mono ?_
  rintro e w2 ⟨v, ws, hl, hs, rfl, hO, hd⟩
  obtain ⟨A2, cap2, rfl, hW⟩ := words_own hO
  have hb2 := hb1.trans hd.2.below
  clear LS1 hO hd hb1
  go_wp2
  go_ret
  exact ⟨A2, ws, cap2, hl, hs, rfl, hW, hb2⟩
/-- Are the first k words valid? -/
noncomputable def okTo (ws : List (Int × ByteArray)) : Nat → Bool
  | 0 => true
  | k + 1 => okTo ws k && validB (ws.getD k (0, ByteArray.empty)).1 (ws.getD k (0, ByteArray.empty)).2
theorem okTo_succ {ws : List (Int × ByteArray)} {k : Nat} (hk : k < ws.length) : okTo ws (k + 1) = (okTo ws k && validB ws[k].1 ws[k].2) := by
  show (okTo ws k && validB _ _) = _
  rw [List.getD_eq_getElem?_getD, List.getElem?_eq_getElem hk, Option.getD_some]
theorem okTo_iff {ws : List (Int × ByteArray)} : ∀ k, k ≤ ws.length → (okTo ws k = true ↔ validTo ws k)
  | 0, _ => ⟨fun _ j _ h => absurd h (Nat.not_lt_zero _), fun _ => rfl⟩
  | k + 1, hk => by
    rw [okTo_succ (by omega), Bool.and_eq_true, okTo_iff k (by omega)]
    exact ⟨fun h => validTo_succ h.1 (by omega) h.2, fun h => ⟨fun j hj hjk => h j hj (by omega), h k (by omega) (by omega)⟩⟩
theorem join_ok {ws : List (Int × ByteArray)} (hl : ws.length ≤ 20) :
    ∃ x, joinF ws = (x, okTo ws ws.length) ∧ x.size ≤ 3000 ∧ (okTo ws ws.length = true → cutRes x = (ws, true)) ∧ (okTo ws ws.length = false → x = ⟨#[]⟩) := by
  cases hv : okTo ws ws.length
  · refine ⟨⟨#[]⟩, ?_, by decide, (fun h => by cases h), (fun _ => rfl)⟩
    unfold joinF
    rw [if_neg]
    intro h
    rw [(okTo_iff _ (Nat.le_refl _)).2 h.2] at hv
    cases hv
  · have hvt : validTo ws ws.length := (okTo_iff _ (Nat.le_refl _)).1 hv
    have hva : ∀ x ∈ ws, validB x.1 x.2 = true := by
      intro x hx
      obtain ⟨j, hj, rfl⟩ := List.getElem_of_mem hx
      exact hvt j hj hj
    have ht : ws.take ws.length = ws := List.take_of_length_le (Nat.le_refl _)
    have hsz : (⟨(joinB ws).toArray⟩ : ByteArray).size = (joinB ws).length := by show (joinB ws).toArray.size = _; simp
    have h5 := joinB_len ws.length (Nat.le_refl _) hvt
    have hcl := cutL_join hva ws.length (Nat.le_refl _)
    rw [ht] at h5 hcl
    exact ⟨_, joinF_yes (by omega) hvt, by rw [hsz]; omega, fun _ => cutRes_yes (by rw [hsz]; omega) (by rw [cut_list]; simpa using hcl) (by omega), (fun h => by cases h)⟩
set_option maxHeartbeats 8000000 in
theorem fnJoin_walk (A : Option Addr) (l : List UInt8) (cap : Nat) (w : World) (hB : Bytes w w.heap.size A l) (hn : l.length ≤ cap) (hcap : cap ≤ 9223372036854775807) (T : Tabs w) (N : NTabs w) :
    Calls Tryd.prog 6 #[.slice A l.length cap] w fun e w' => e = .returned (.bool true) ∧ Below w.heap.size w w' := by
  by_cases hl : 1048576 < l.length
  · clear hB T N
    go_enter Tryd.func6, Tryd.ntmps6
    go_wp2
    go_ret
    exact ⟨rfl, Below.refl _ _⟩
  have hl' : l.length ≤ 1048576 := by omega
  have DC := Lib.hid (drawJoinWords_any A l cap w hB hn hcap)
  clear hl hB
  go_enter Tryd.func6, Tryd.ntmps6
  go_wp2_with fail
  refine DC.out.mono ?_
  rintro e w1 ⟨A1, ws, cap1, hlen, hsz, rfl, hW1, hb1⟩
  have T1 := T.below hb1
  have N1 := N.below hb1
  have hsz' : ∀ x ∈ ws, x.2.size ≤ 1048576 := fun x hx => by have := hsz x hx; omega
  have IJ := Lib.hid (implJoinWords_any A1 ws cap1 w1 hW1 hsz' (by omega) T1 N1)
  have SJ := fun W hW => Lib.hid (specJoinWords_any A1 ws cap1 W hW hsz' (by omega))
  obtain ⟨x, hx1, hx2, hx3, hx4⟩ := join_ok hlen
  rw [hx1] at IJ SJ
  have HX3 := Lib.hid hx3
  have HX4 := Lib.hid hx4
  have HSZ := Lib.hid hsz
  have HW1 := Lib.hid hW1
  have qx : (x.toList == x.toList) = true := by simp
  have qo : (okTo ws ws.length != okTo ws ws.length) = false := by simp
  clear DC T N hx1 hx3 hx4 hsz hsz' hW1
  go_wp2_with fail
  refine IJ.out.mono ?_
  rintro e w2 ⟨rfl, hb2⟩
  have SJ2 := Lib.hid (SJ w2 ((HW1.out.below hb2).more hb2.size)).out
  have hbA := hb1.trans (hb2.mono hb1.size)
  clear IJ SJ
  go_wp2_with fail
  refine SJ2.out.mono ?_
  rintro e w3 ⟨rfl, hb3⟩
  have hb23 := hb2.trans (hb3.mono hb2.size)
  have HW3 := Lib.hid ((HW1.out.below hb23).more hb23.size)
  have T3 := Lib.hid (T1.below hb23)
  have N3 := Lib.hid (N1.below hb23)
  have hb03 := Lib.hid (hb1.trans (hb23.mono hb1.size))
  clear SJ2 HW1 T1 N1 hb1 hb2 hb3 hb23 hbA
  go_wp2
  go_loopw [8, 38] (fun v i wr => ∃ k : Nat, k ≤ ws.length ∧ i = .int .i64 k ∧ v = .bool (okTo ws k) ∧ Below w3.heap.size w3 wr) (fun _ i _ => ws.length - (intOf i).toNat)
  case atStart => exact ⟨0, Nat.zero_le _, rfl, rfl, Below.refl _ _⟩
  case round =>
    obtain ⟨k, hk, rfl, rfl, hb⟩ := hrel
    have hbs := hb.size
    by_cases hlk : k < ws.length
    · obtain ⟨b, o, rfl, hB, c1, c2⟩ := (HW3.out.below hb).at_ hlk
      have HN := Lib.hid (okTo_succ hlk)
      have hsk := HSZ.out _ (List.getElem_mem hlk)
      have IV := fun W h h' => Lib.hid (implWordValid_any ws[k].1 ws[k].2 W (by omega) h h')
      have SV := fun W => Lib.hid (specWordValid_any ws[k].1 ws[k].2 W (by omega))
      have HWk := Lib.hid hlk
      generalize validB ws[k].1 ws[k].2 = v at *
      generalize ws[k].1 = n at *
      generalize ws[k].2 = s at *
      have hg : ∃ g, okTo ws k = g := ⟨_, rfl⟩
      obtain ⟨g, hg⟩ := hg
      rw [hg] at HN ⊢
      have qv : (v == v) = true := by simp
      have hbA := hb.alloc hbs (.cells #[.int .i64 n, .string s] 29)
      have j0 : (wr.alloc (.cells #[.int .i64 n, .string s] 29)).cell? ⟨wr.heap.size, 0, none⟩ = some (.int .i64 n) := alloc_cell wr #[.int .i64 n, .string s] 29 (0, 0) 0
      have j1 : (wr.alloc (.cells #[.int .i64 n, .string s] 29)).cell? ⟨wr.heap.size, 1, none⟩ = some (.string s) := alloc_cell wr #[.int .i64 n, .string s] 29 (0, 0) 1
      have hl5 : wr.heap.size < (wr.alloc (.cells #[.int .i64 n, .string s] 29)).heap.size := by rw [World.size_alloc]; omega
      clear hb hg
      go_upto_region 12 with (fail)
      generalize wr.alloc (.cells #[.int .i64 n, .string s] 29) = w5 at *
      clear c1 c2
      cases g
      · have HN1 : okTo ws (k + 1) = false := HN.out.trans (Bool.false_and _)
        replace HN1 := Lib.hid HN1
        have hbC := hbA.drew
        clear IV SV qv HN
        (first | go_region_law (fail) | fail)
        all_goals
          go_wp2
          go_roundw
          case rel => exact ⟨k + 1, by omega, by go_num, by rw [HN1.out], by first | exact hbA | exact hbC⟩
          case measure => simp only [intOf]; omega
      · have HN1 : okTo ws (k + 1) = v := HN.out.trans (Bool.true_and _)
        replace HN1 := Lib.hid HN1
        clear HN
        have T5 := T3.out.below hbA.drew
        have N5 := N3.out.below hbA.drew
        have IV5 := Lib.hid (IV w5.drew T5 N5).out
        have hb5s := hbA.size
        clear T5 N5
        go_region_held3 (fun u => u.cell? ⟨wr.heap.size, 0, none⟩ = some (.int .i64 n) ∧ u.cell? ⟨wr.heap.size, 1, none⟩ = some (.string s)) (go_keep)
          (first
            | (go_at_call 13; (with_reducible refine Calls.mono IV5.out ?_); rintro ee w6 ⟨rfl, hb6⟩; have n0 := (hb6.cell (p := ⟨wr.heap.size, 0, none⟩) hl5).trans j0; have n1 := (hb6.cell (p := ⟨wr.heap.size, 1, none⟩) hl5).trans j1; have hl6 := Nat.lt_of_lt_of_le hl5 hb6.size; have SV6 := SV w6)
            | (go_at_call 26; (with_reducible refine Calls.mono SV6.out ?_); rintro ee w7 ⟨rfl, hb7⟩; have p0 := (hb7.cell (p := ⟨wr.heap.size, 0, none⟩) hl6).trans n0; have p1 := (hb7.cell (p := ⟨wr.heap.size, 1, none⟩) hl6).trans n1; have hb57 := hb6.trans (hb7.mono hb6.size); have hbB := hbA.drew.trans (hb57.mono hb5s); have IV7 := IV w7 (T3.out.below hbB) (N3.out.below hbB); have hl7 := Nat.lt_of_lt_of_le hl6 hb7.size)
            | (go_at_call 13; (with_reducible refine Calls.mono IV7.out ?_); rintro ee w8 ⟨rfl, hb8⟩; have r0 := (hb8.cell (p := ⟨wr.heap.size, 0, none⟩) hl7).trans p0; have r1 := (hb8.cell (p := ⟨wr.heap.size, 1, none⟩) hl7).trans p1))
        all_goals
          have hbC := hbB.trans (hb8.mono hbB.size)
          go_wp2
          go_roundw
          case rel => exact ⟨k + 1, by omega, by go_num, by rw [HN1.out], hbC⟩
          case measure => simp only [intOf]; omega
    · obtain rfl : k = ws.length := by omega
      have hb04 := Lib.hid (hb03.out.trans (hb.mono hb03.out.size))
      have T4 := T3.out.below hb
      have N4 := N3.out.below hb
      have IC := Lib.hid (implCutWords_any x wr (by omega) T4 N4)
      have HW4 := Lib.hid ((HW3.out.below hb).more hbs)
      have hgo : ∃ g, okTo ws ws.length = g := ⟨_, rfl⟩
      obtain ⟨g, hg⟩ := hgo
      rw [hg] at HX3 HX4 qo ⊢
      clear T3 N3 HW3 hb03 hb T4 N4 hg HSZ
      cases g
      · obtain rfl := HX4.out rfl
        have e0 : ((⟨#[]⟩ : ByteArray).toList == (⟨#[]⟩ : ByteArray).toList) = true := by simp
        clear IC HX3 HX4
        go_wp2
        go_ret
        exact ⟨rfl, hb04.out⟩
      · have hcx := HX3.out rfl
        rw [hcx] at IC
        clear hcx HX3 HX4
        go_wp2_with fail
        refine IC.out.mono ?_
        rintro e w5 ⟨⟨v5, rfl, hO5⟩, hb5⟩
        obtain ⟨A5, cap5, rfl, hW5⟩ := words_own hO5
        have hb05 := hb04.out.trans (hb5.mono hb04.out.size)
        have WS := Lib.hid (wwWords_same A5 ws cap5 A1 cap1 w5 hW5 ((HW4.out.below hb5).more hb5.size) (by omega))
        clear IC hO5 hW5 hb5 hb04
        go_wp2_with fail
        refine WS.out.mono ?_
        rintro e w6 ⟨rfl, hb6⟩
        have hb06 := hb05.trans (hb6.mono hb05.size)
        clear WS
        go_wp2
        go_ret
        exact ⟨rfl, hb06⟩
end Go.Proofs.YtcgjlfkjcgpocaaDoor
