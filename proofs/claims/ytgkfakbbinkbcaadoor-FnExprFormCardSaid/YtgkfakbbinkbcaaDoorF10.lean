/-
  Words put behind a list by the program: calls.
-/
import Derived.Test.YtgkfakbbinkbcaaDoorF9
namespace Go.Proofs.YtgkfakbbinkbcaaDoor
open Go.RowKit Go.Maps
set_option maxRecDepth 100000

set_option maxHeartbeats 4000000 in
theorem addCall_any (d : Nat) (HE : AddE d) (s : ByteArray) (ks : List E) (hk : ∀ k ∈ ks, formE d k = true) (A : Option Addr) (cap : Nat) (w : World) (base : Nat) (v : Value) (l : List W) (hW : WRow w base v l) (hE : Env base w) (hR : RdS w base ks A) (hl : l.length + 6 * (1 + sizeL ks) ≤ 1000000) :
    Calls Tryd.prog 75 #[v, .agg #[.int .i64 13, .int .i64 0, .string s, .slice A ks.length cap]] w (AddRet base v (l ++ wE (callE s ks) 0) w) := by
  obtain ⟨i0, hi, hz0, hz1, hz2⟩ := info_parts wordInfo
  have HWE := Lib.hid (show l ++ wE (callE s ks) 0 = (l ++ ((1, s) :: (3, lpS) :: callTo ks ks.length)) ++ [(3, rpS)] by rw [wE_call _ _ (by omega), callTo_end]; simp)
  have HCL := Lib.hid (fun i => callTo_len hk i)
  have HCI := Lib.hid (show ∀ i, i < ks.length → (callTo ks i).length + 1 ≤ 6 * sizeL (ks.take i) + 1 from fun i hi => by
    have h1 := commas_bd (ks.take i) 0 (fun k hk' l => wE_bd d k (hk k (List.mem_of_mem_take hk')) l)
    show (commas (wL 13 0 (ks.take i))).length + 1 ≤ _
    omega)
  have hll := length_le_sizeL ks
  have hbs := hE.1
  have HR := Lib.hid hR
  have HEn := Lib.hid hE
  have HK := Lib.hid hk
  have HEE := Lib.hid HE
  obtain ⟨c0, c1, c2, c3, hlt, hb⟩ := box_cells w (.int .i64 13) (.int .i64 0) (.string s) (.slice A ks.length cap) 25
  have hfree := Lib.hid (hW.free (Nat.le_refl w.heap.size))
  have HW1 := Lib.hid (hW.below hb)
  have HP0 := Lib.hid (Put.of_below (v := v) hb hbs)
  have hbs1 : base ≤ (w.alloc (.cells #[.int .i64 13, .int .i64 0, .string s, .slice A ks.length cap] 25)).heap.size := Nat.le_trans hbs hb.size
  clear hk HE hE hR hW
  go_enter Tryd.func75, Tryd.ntmps75
  go_upto_region 1 with (fail)
  generalize w.alloc (.cells #[.int .i64 13, .int .i64 0, .string s, .slice A ks.length cap] 25) = wa at *
  have HNW := Lib.hid (new_word' wa 1 s)
  have HTO := Lib.hid (wordOne' 1 s)
  have hbz : base ≤ (wa.alloc (.cells #[.int .i64 1, .string s] 85)).heap.size := by rw [World.size_alloc]; omega
  go_wp2_with (at_builtin; refine wpList_append_own_at _ rfl _ _ 64 rfl base 85 i0 (.agg #[.int .i64 0, .string ⟨#[]⟩]) 2 24 Tryd.underlying64 hi hz0 hz1 hz2 rfl (by decide) _ l.length (wordCells l) rfl (World.ownsRow.alloc HW1.out _) ⟨wa.heap.size, 0, none⟩ 1 1 [.int .i64 1, .string s] rfl rfl HNW.out HTO.out (by unfold maxLen; omega) (by omega) hbz ?_; intro v1 w1 hown1 hgrow1 _ hat1)
  obtain ⟨hW1, hP1⟩ := put_append HW1.out hbs1 hown1 hgrow1 hat1
  have HW2 := Lib.hid hW1
  have HP1 := Lib.hid hP1
  clear hown1 hgrow1 hat1 hW1 hP1 HNW HTO
  have d3 := (HP1.out.cell (k := w.heap.size) (o := 3) hlt hfree.out).trans c3
  have hbs2 := Nat.le_trans hbs1 HP1.out.below.size
  (with_reducible refine Calls.mono (addSign_any base v1 _ _ w1 HW2.out hbs2 (by rw [List.length_append, List.length_singleton]; omega)) ?_)
  rintro ee w2 ⟨v2, rfl, hW3, hP2⟩
  have HW3 := Lib.hid hW3
  have HP2 := Lib.hid hP2
  have hne1 := HP1.out.ne hlt hfree.out
  have hlt1 := Nat.lt_of_lt_of_le hlt HP1.out.below.size
  have e3 := (HP2.out.cell (k := w.heap.size) (o := 3) hlt1 hne1).trans d3
  have HPP := Lib.hid (HP0.out.trans (HP1.out.trans HP2.out))
  clear hW3 hP2 c0 c1 c2 c3 d3 HW1 HW2 HP0 HP1 HP2 hbs1 hbs2 hbz hb hne1
  have hb2 := HPP.out.below
  go_wp2
  go_loopw [0, 17] (fun q i wr => ∃ (k : Nat), k ≤ ks.length ∧ i = .int .i64 k ∧ WRow wr base q (l ++ ((1, s) :: (3, lpS) :: callTo ks k)) ∧ Put base v q w wr) (fun _ i _ => ks.length - (intOf i).toNat)
  case atStart => exact ⟨0, Nat.zero_le _, rfl, by have := HW3.out; rw [List.append_assoc] at this; rw [callTo_zero]; exact this, HPP.out⟩
  case round =>
    obtain ⟨k, hk, rfl, hW, hP⟩ := hrel
    have HW := Lib.hid hW
    have HP := Lib.hid hP
    have hbw := hP.below
    have hbr := Nat.le_trans hbs hbw.size
    clear hW hP
    by_cases hlk : k < ks.length
    · obtain ⟨b, o, rfl, hB, ⟨d0, d1, d2⟩, A', cap', d3, hr'⟩ := (HR.out.below hbw).at_ hlk
      have hsk := sizeL_get hlk
      have htk := sizeL_take hlk
      have htk1 := sizeL_take_le ks (k + 1)
      have hcl := HCI.out k hlk
      have hfk := HK.out _ (List.getElem_mem hlk)
      have HN := Lib.hid (show callTo ks (k + 1) = if k = 0 then callTo ks k ++ wE ks[k] 1 else (callTo ks k ++ [(3, cmS)]) ++ wE ks[k] 1 by
        by_cases h0 : k = 0
        · subst h0; rw [if_pos rfl, callTo_zero, callTo_first hlk]; rfl
        · rw [if_neg h0, callTo_next hlk (by omega)]; simp)
      have h01 : wE ks[k] 0 = wE ks[k] 1 := by
        have := lvl_bd ks[k].op
        rw [wE_bare _ (show 0 ≤ lvl ks[k].op by omega), wE_bare _ (show 1 ≤ lvl ks[k].op by omega)]
      have hsz : l.length + (2 + (callTo ks k).length) + 1 + 6 * sizeE ks[k] ≤ 1000000 := by omega
      have hq4 : Four wr b (o + k * 4) _ _ _ _ := ⟨d0, d1, d2, d3⟩
      obtain ⟨hal, hlt2⟩ : Below wr.heap.size wr (wr.alloc (.cells #[.int .i64 ks[k].op, .int .i64 ks[k].n, .string ks[k].name, .slice A' ks[k].kids.length cap'] 25)) ∧ wr.heap.size < (wr.alloc (.cells #[.int .i64 ks[k].op, .int .i64 ks[k].n, .string ks[k].name, .slice A' ks[k].kids.length cap'] 25)).heap.size := ⟨(box_cells wr _ _ _ _ _).2.2.2.2.2, (box_cells wr _ _ _ _ _).2.2.2.2.1⟩
      have HBX := Lib.hid (show Bx4 (wr.alloc (.cells #[.int .i64 ks[k].op, .int .i64 ks[k].n, .string ks[k].name, .slice A' ks[k].kids.length cap'] 25)) wr.heap.size (.int .i64 ks[k].op) (.int .i64 ks[k].n) (.string ks[k].name) (.slice A' ks[k].kids.length cap') from ⟨(box_cells wr _ _ _ _ _).1, (box_cells wr _ _ _ _ _).2.1, (box_cells wr _ _ _ _ _).2.2.1, (box_cells wr _ _ _ _ _).2.2.2.1⟩)
      have HWA := Lib.hid (HW.out.below hal)
      have hbal : base ≤ (wr.alloc (.cells #[.int .i64 ks[k].op, .int .i64 ks[k].n, .string ks[k].name, .slice A' ks[k].kids.length cap'] 25)).heap.size := Nat.le_trans hbr hal.size
      have HPA := Lib.hid (HP.out.trans (Put.of_below hal hbr))
      have HQF := Lib.hid (HW.out.free (Nat.le_refl wr.heap.size))
      have hbwa := hbw.trans (hal.mono hbr)
      have HX := fun W v' l' (h1 : WRow W base v' l') (h2 : Below base w W) (h2' : Below base wr W) (h3 : l'.length ≤ l.length + (2 + (callTo ks k).length) + 1) => HEE.out ks[k] hfk A' cap' W base v' l' h1 (HEn.out.next h2) (hr'.below h2') (by omega)
      rw [h01] at HX
      unfold exV at HX
      have HX := fun W v' l' h1 h2 h2' h3 => Lib.hid (HX W v' l' h1 h2 h2' h3)
      have hc' : (callTo ks k).length ≤ 1000000 := by omega
      have HLEN := Lib.hid (show ((l ++ ((1, s) :: (3, lpS) :: callTo ks k)) : List W).length = l.length + (2 + (callTo ks k).length) by simp; omega)
      clear hfk hr' h01 hq4 htk htk1 hcl hsk
      generalize wE ks[k] 1 = we at *
      generalize hkd : ks[k] = kid at *
      clear hkd
      obtain ⟨op', n', s', ks'⟩ := kid
      dsimp only [E.op, E.n, E.name, E.kids] at d0 d1 d2 d3 HX HBX HWA hbal HPA hbwa hal hlt2
      generalize callTo ks k = ck at *
      by_cases h0 : k = 0
      · have hk0 : k ≤ 0 := by omega
        have HNN := Lib.hid (HN.out.trans (if_pos h0))
        have HX1 := Lib.hid (HX _ _ _ HWA.out hbwa (hal.mono hbr) (by rw [HLEN.out]; omega)).out
        clear h0 HX
        go_wp2_with ((go_at_call 50; (with_reducible refine Calls.mono HX1.out ?_); rintro ee w3 ⟨v3, rfl, hW4, hP4⟩; have HW4 := Lib.hid hW4; have HP4 := Lib.hid hP4; clear hW4 hP4))
        go_roundw
        case rel => exact ⟨k + 1, by omega, by go_num, by rw [HNN.out]; have := HW4.out; simpa using this, HPA.out.trans HP4.out⟩
        case measure => simp only [intOf]; omega
      · have hk0 : 0 < k := by omega
        have HNN := Lib.hid (HN.out.trans (if_neg h0))
        have AS := Lib.hid (addSign_any base _ _ ⟨#[44]⟩ _ HWA.out hbal (by rw [HLEN.out]; omega))
        clear h0
        go_wp2_with fail
        (with_reducible refine Calls.mono AS.out ?_)
        rintro ee w3 ⟨v3, rfl, hW4, hP4⟩
        obtain ⟨m0, m1, m2, m3⟩ := HBX.out.put hP4 hlt2 HQF.out
        have HW4 := Lib.hid hW4
        have HP4 := Lib.hid hP4
        have HX1 := Lib.hid (HX _ _ _ HW4.out (hbwa.trans HP4.out.below) ((hal.mono hbr).trans HP4.out.below) (by rw [List.length_append, HLEN.out, List.length_singleton]; exact Nat.le_refl _)).out
        clear hW4 hP4 HX
        go_wp2_with fail
        (with_reducible refine Calls.mono HX1.out ?_)
        rintro ee w5 ⟨v5, rfl, hW6, hP6⟩
        have HW6 := Lib.hid hW6
        have HP6 := Lib.hid hP6
        clear hW6 hP6 m0 m1 m2 m3
        go_wp2
        go_roundw
        case rel => exact ⟨k + 1, by omega, by go_num, by rw [HNN.out]; have := HW6.out; simpa [cmS] using this, HPA.out.trans (HP4.out.trans HP6.out)⟩
        case measure => simp only [intOf]; omega
    · obtain rfl : k = ks.length := by omega
      have hcl := HCL.out ks.length
      have AS := Lib.hid (addSign_any base _ _ ⟨#[41]⟩ wr HW.out hbr (by simp only [List.length_append, List.length_cons]; omega))
      go_wp2_with ((go_at_call 74; (with_reducible refine Calls.mono AS.out ?_); rintro ee w3 ⟨v3, rfl, hW4, hP4⟩; have HW4 := Lib.hid hW4; have HP4 := Lib.hid hP4; clear hW4 hP4))
      go_ret
      exact ⟨_, rfl, by rw [HWE.out]; exact HW4.out, HP.out.trans HP4.out⟩
end Go.Proofs.YtgkfakbbinkbcaaDoor
