/-
  The law that signs need no spaces around them: its walk.
-/
import Derived.Test.YtljoipgpkmdjbaaDoorFnJoin
import Derived.Test.YtljoipgpkmdjbaaDoorTightM
namespace Go.Proofs.YtljoipgpkmdjbaaDoor
open Go.RowKit
set_option maxRecDepth 100000

set_option maxHeartbeats 8000000 in
theorem fnTight_walk (A : Option Addr) (l : List UInt8) (cap : Nat) (w : World) (hB : Bytes w w.heap.size A l) (hn : l.length ≤ cap) (hcap : cap ≤ 9223372036854775807) (T : Tabs w) (N : NTabs w) :
    Calls Tryd.prog 4 #[.slice A l.length cap] w fun e w' => e = .returned (.bool true) ∧ Below w.heap.size w w' := by
  by_cases hl : 1048576 < l.length
  · clear hB T N
    go_enter Tryd.func4, Tryd.ntmps4
    go_wp2
    go_ret
    exact ⟨rfl, Below.refl _ _⟩
  have hl' : l.length ≤ 1048576 := by omega
  have DC := Lib.hid (drawJoinWords_any A l cap w hB hn hcap)
  clear hl hB
  go_enter Tryd.func4, Tryd.ntmps4
  go_wp2_with fail
  refine DC.out.mono ?_
  rintro e w1 ⟨A1, ws, cap1, hlen, hsz, rfl, hW1, hb1⟩
  have T1 := T.below hb1
  have N1 := N.below hb1
  have hsz' : ∀ x ∈ ws, x.2.size ≤ 1048576 := fun x hx => by have := hsz x hx; omega
  have IJ := Lib.hid (implJoinWords_any A1 ws cap1 w1 hW1 hsz' (by omega) T1 N1)
  have SJ := fun W hW => Lib.hid (specJoinWords_any A1 ws cap1 W hW hsz' (by omega))
  obtain ⟨x, hx1, hx2, hx3, hx4⟩ := join_ok hlen
  have HJ := Lib.hid hx1
  rw [hx1] at IJ SJ
  have HW1 := Lib.hid hW1
  have qx : (x.toList == x.toList) = true := by simp
  have qx2 : (x.toList != x.toList) = false := by simp
  clear DC T N hx1 hx3 hsz hsz' hW1
  cases hg : okTo ws ws.length
  · rw [hg] at IJ SJ hx4
    obtain rfl := hx4 rfl
    clear hx4 hg HJ
    go_wp2_with fail
    refine IJ.out.mono ?_
    rintro e w2 ⟨rfl, hb2⟩
    have SJ2 := Lib.hid (SJ w2 ((HW1.out.below hb2).more hb2.size)).out
    clear IJ SJ
    go_wp2_with fail
    refine SJ2.out.mono ?_
    rintro e w3 ⟨rfl, hb3⟩
    have hb03 := hb1.trans ((hb2.trans (hb3.mono hb2.size)).mono hb1.size)
    clear SJ2
    go_wp2
    go_ret
    exact ⟨rfl, hb03⟩
  · have hv : ∀ y ∈ ws, validB y.1 y.2 = true := by
      have hvt := (okTo_iff _ (Nat.le_refl _)).1 hg
      intro y hy
      obtain ⟨j, hj, rfl⟩ := List.getElem_of_mem hy
      exact hvt j hj hj
    rw [hg] at IJ SJ HJ
    have hts := tB_size hv ws.length (Nat.le_refl _)
    have HCR := Lib.hid (cutRes_tight hv hlen)
    have HPL := Lib.hid ((plain_tight hv hlen).trans HJ.out)
    have HSZ := Lib.hid (fun k (hk : k ≤ ws.length) => (show (tB ws k).size ≤ 100 by have := tB_size hv k hk; omega))
    have HS4 := Lib.hid (fun k (hk : k < ws.length) => (show (ws[k]).2.size ≤ 4 from validB_size (hv _ (List.getElem_mem hk))))
    have IC := fun W h h' => Lib.hid (implCutWords_any (tB ws ws.length) W (by omega) h h')
    have IP := fun W h h' => Lib.hid (implPlainText_any (tB ws ws.length) W (by omega) h h')
    rw [HCR.out] at IC
    rw [HPL.out] at IP
    clear hx4 hg HJ HCR HPL hts hv
    go_wp2_with fail
    refine IJ.out.mono ?_
    rintro e w2 ⟨rfl, hb2⟩
    have SJ2 := Lib.hid (SJ w2 ((HW1.out.below hb2).more hb2.size)).out
    clear IJ SJ
    go_wp2_with fail
    refine SJ2.out.mono ?_
    rintro e w3 ⟨rfl, hb3⟩
    have hb23 := hb2.trans (hb3.mono hb2.size)
    have HW3 := Lib.hid ((HW1.out.below hb23).more hb23.size)
    have T3 := Lib.hid (T1.below hb23)
    have N3 := Lib.hid (N1.below hb23)
    have hb03 := Lib.hid (hb1.trans (hb23.mono hb1.size))
    clear SJ2 HW1 T1 N1 hb1 hb2 hb3 hb23
    go_wp2_with fail
    go_loopw [8, 52] (fun v i wr => ∃ k : Nat, k ≤ ws.length ∧ i = .int .i64 k ∧ v = .string (tB ws k) ∧ Below w3.heap.size w3 wr) (fun _ i _ => ws.length - (intOf i).toNat)
    case atStart => exact ⟨0, Nat.zero_le _, rfl, rfl, Below.refl _ _⟩
    case round =>
      obtain ⟨k, hk, rfl, rfl, hb⟩ := hrel
      have hbs := hb.size
      by_cases hlk : k < ws.length
      · obtain ⟨b, o, rfl, hB, c1, c2⟩ := (HW3.out.below hb).at_ hlk
        have hBr : b < wr.heap.size := Nat.lt_of_lt_of_le hB hbs
        have hal : Below wr.heap.size wr (wr.alloc (.cells #[.int .i64 ws[k].1, .string ws[k].2] 28)) := (Below.refl _ _).alloc (Nat.le_refl _) _
        have hts := HSZ.out k hk
        have hs4 := HS4.out k hlk
        have HP := Lib.hid (show (h0 : 0 < k) → (wr.alloc (.cells #[.int .i64 ws[k].1, .string ws[k].2] 28)).cell? ⟨b, o + (k - 1) * 2, none⟩ = some (.int .i64 (ws[k - 1]'(by omega)).1) from fun h0 => by
          obtain ⟨b', o', e', _, p1, _⟩ := (HW3.out.below hb).at_ (show k - 1 < ws.length by omega)
          injection e' with e'
          injection e' with e1 e2
          subst e1; subst e2
          exact (hal.cell (p := ⟨b, o + (k - 1) * 2, none⟩) hBr).trans p1)
        have hba := Lib.hid (hb.trans (hal.mono hbs))
        have j0 : (wr.alloc (.cells #[.int .i64 ws[k].1, .string ws[k].2] 28)).cell? ⟨wr.heap.size, 0, none⟩ = some (.int .i64 ws[k].1) := alloc_cell wr #[.int .i64 ws[k].1, .string ws[k].2] 28 (0, 0) 0
        have j1 : (wr.alloc (.cells #[.int .i64 ws[k].1, .string ws[k].2] 28)).cell? ⟨wr.heap.size, 1, none⟩ = some (.string ws[k].2) := alloc_cell wr #[.int .i64 ws[k].1, .string ws[k].2] 28 (0, 0) 1
        have HSE := Lib.hid (fun h0 h1 h2 => tB_sep hlk h0 h1 h2)
        have HNO := Lib.hid (fun h => tB_nosep hlk h)
        have HLK := Lib.hid hlk
        clear hal hb
        generalize hz : ws[k].1 = z at *
        generalize ht : ws[k].2 = t at *
        have HZ := Lib.hid hz
        clear hz ht
        go_upto_region 12 with (fail)
        generalize wr.alloc (.cells #[.int .i64 z, .string t] 28) = w5 at *
        clear c1 c2
        by_cases h0 : k = 0
        · subst h0
          have HN1 := Lib.hid (HNO.out (.inl rfl))
          clear HSE HNO HP
          generalize tB ws 0 = tb at *
          go_wp2_with fail
          go_roundw
          case rel => exact ⟨0 + 1, by omega, by go_num, by rw [HN1.out], hba.out⟩
          case measure => simp only [intOf]; omega
        · obtain ⟨j, rfl⟩ : ∃ j, k = j + 1 := ⟨k - 1, by omega⟩
          have q9 : ((j + 1 : Nat) : Int) - 1 = (j : Int) := by omega
          have hpc := HP.out (by omega)
          simp only [Nat.add_sub_cancel] at hpc
          by_cases hz3 : z = 3
          · have HN1 := Lib.hid (HNO.out (.inr (.inl hz3)))
            have b1 : (z != 3) = false := by simp [hz3]
            clear HSE HNO HP hz3
            generalize tB ws (j + 1) = tb at *
            go_wp2_with fail
            go_roundw
            case rel => exact ⟨j + 1 + 1, by omega, by go_num, by rw [HN1.out], hba.out⟩
            case measure => simp only [intOf]; omega
          · have b1 : (z != 3) = true := by simp [hz3]
            have hjl : j < ws.length := by have := HLK.out; omega
            have HSE1 := Lib.hid (HSE.out (by omega) hz3)
            have HNO1 := Lib.hid (fun (h : ws[j].1 = 3) => HNO.out (.inr (.inr ⟨hjl, h⟩)))
            have HSE2 := Lib.hid (fun (h : ws[j].1 ≠ 3) => HSE1.out h)
            clear HSE HNO HP hz3 HSE1
            generalize ws[j].1 = y at *
            by_cases hy3 : y = 3
            · have HN1 := Lib.hid (HNO1.out hy3)
              have b2 : (y != 3) = false := by simp [hy3]
              clear HNO1 HSE2 hy3
              generalize tB ws (j + 1) = tb at *
              go_wp2_with fail
              go_roundw
              case rel => exact ⟨j + 1 + 1, by omega, by go_num, by rw [HN1.out], hba.out⟩
              case measure => simp only [intOf]; omega
            · have HN1 := Lib.hid (HSE2.out hy3)
              have b2 : (y != 3) = true := by simp [hy3]
              have hsum : (tB ws (j + 1) ++ ⟨#[32]⟩ : ByteArray).size ≤ 101 := by rw [ByteArray.size_append]; show _ + 1 ≤ _; omega
              clear HNO1 HSE2 hy3
              generalize tB ws (j + 1) = tb at *
              go_wp2_with fail
              go_roundw
              case rel => exact ⟨j + 1 + 1, by omega, by go_num, by rw [HN1.out], hba.out⟩
              case measure => simp only [intOf]; omega
      · obtain rfl : k = ws.length := by omega
        have hb04 := Lib.hid (hb03.out.trans (hb.mono hb03.out.size))
        have T4 := T3.out.below hb
        have N4 := N3.out.below hb
        have IC4 := Lib.hid (IC wr T4 N4).out
        have HW4 := Lib.hid ((HW3.out.below hb).more hbs)
        have IP5 := Lib.hid (fun W (h : Below wr.heap.size wr W) => (IP W (T4.below h) (N4.below h)).out)
        clear T3 N3 HW3 hb03 hb T4 N4 IC IP HS4 HSZ
        generalize tB ws ws.length = tb at *
        go_wp2_with fail
        refine IC4.out.mono ?_
        rintro e w5 ⟨⟨v5, rfl, hO5⟩, hb5⟩
        obtain ⟨A5, cap5, rfl, hW5⟩ := words_own hO5
        have IP6 := Lib.hid (IP5.out w5 hb5)
        have hb05 := Lib.hid (hb04.out.trans (hb5.mono hb04.out.size))
        have HW6 := Lib.hid ((HW4.out.below hb5).more hb5.size)
        have HWN := Lib.hid hW5
        clear IC4 hO5 hW5 hb5 hb04 IP5 HW4
        go_wp2_with fail
        refine IP6.out.mono ?_
        rintro e w6 ⟨rfl, hb6⟩
        have hb06 := Lib.hid (hb05.out.trans (hb6.mono hb05.out.size))
        have WS := Lib.hid (wwWords_same A5 ws cap5 A1 cap1 w6 ((HWN.out.below hb6).more hb6.size) ((HW6.out.below hb6).more hb6.size) (by omega))
        clear IP6 hb6 hb05 HW6 HWN
        go_wp2_with fail
        refine WS.out.mono ?_
        rintro e w7 ⟨rfl, hb7⟩
        have hb07 := hb06.out.trans (hb7.mono hb06.out.size)
        clear WS
        go_wp2
        go_ret
        exact ⟨rfl, hb07⟩
end Go.Proofs.YtljoipgpkmdjbaaDoor
