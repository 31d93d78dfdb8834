/-
  Words put behind a list by the program: Kids with commas between.
-/
import Derived.Test.YtoepehlndljkoaaDoorFB
namespace Go.Proofs.YtoepehlndljkoaaDoor
open Go.RowKit Go.Maps
set_option maxRecDepth 100000

set_option maxHeartbeats 4000000 in
theorem addListed_any (d : Nat) (HE : AddE d) (ks : List E) (hk : ∀ k ∈ ks, formE d k = true) (A : Option Addr) (cap : Nat) (w : World) (base : Nat) (v : Value) (l : List W) (hW : WRow w base v l) (hE : Env base w) (hR : RdS w base ks A) (hl : l.length + 6 * sizeL ks + 1 ≤ 1000000) :
    Calls Tryd.prog 37 #[v, .slice A ks.length cap, .func (.func 19) #[] #[]] w (AddRet base v (l ++ callTo ks ks.length) w) := by
  have HCI := Lib.hid (show ∀ i, i < ks.length → (callTo ks i).length + 1 ≤ 6 * sizeL (ks.take i) + 1 from fun i hi => by
    have h1 := commas_bd (ks.take i) 0 (fun k hk' l => wE_bd d k (hk k (List.mem_of_mem_take hk')) l)
    show (commas (wL 13 0 (ks.take i))).length + 1 ≤ _
    omega)
  have hll := length_le_sizeL ks
  have hbs := hE.1
  have HR := Lib.hid hR
  have HEn := Lib.hid hE
  have HK := Lib.hid hk
  have HEE := Lib.hid HE
  have HW1 := Lib.hid hW
  have HP0 := Lib.hid (Put.of_below (v := v) (Below.refl _ w) hbs)
  clear hk HE hE hR hW
  go_enter Tryd.func37, Tryd.ntmps37
  go_wp2_with fail
  go_loopw [0, 11] (fun q i wr => ∃ (k : Nat), k ≤ ks.length ∧ i = .int .i64 k ∧ WRow wr base q (l ++ callTo ks k) ∧ Put base v q w wr) (fun _ i _ => ks.length - (intOf i).toNat)
  case atStart => exact ⟨0, Nat.zero_le _, rfl, by rw [callTo_zero, List.append_nil]; exact HW1.out, HP0.out⟩
  case round =>
    obtain ⟨k, hk, rfl, hW, hP⟩ := hrel
    have HW := Lib.hid hW
    have HP := Lib.hid hP
    have hbw := hP.below
    have hbr := Nat.le_trans hbs hbw.size
    clear hW hP
    by_cases hlk : k < ks.length
    · obtain ⟨b, o, rfl, hB, ⟨d0, d1, d2⟩, A', cap', d3, hr'⟩ := (HR.out.below hbw).at_ hlk
      have hsk := sizeL_get hlk
      have htk := sizeL_take hlk
      have htk1 := sizeL_take_le ks (k + 1)
      have hcl := HCI.out k hlk
      have hfk := HK.out _ (List.getElem_mem hlk)
      have HN := Lib.hid (show callTo ks (k + 1) = if k = 0 then callTo ks k ++ wE ks[k] 1 else (callTo ks k ++ [(3, cmS)]) ++ wE ks[k] 1 by
        by_cases h0 : k = 0
        · subst h0; rw [if_pos rfl, callTo_zero, callTo_first hlk]; rfl
        · rw [if_neg h0, callTo_next hlk (by omega)]; simp)
      have h01 : wE ks[k] 0 = wE ks[k] 1 := by
        have := lvl_bd ks[k].op
        rw [wE_bare _ (show 0 ≤ lvl ks[k].op by omega), wE_bare _ (show 1 ≤ lvl ks[k].op by omega)]
      have hsz : l.length + (callTo ks k).length + 1 + 6 * sizeE ks[k] ≤ 1000000 := by omega
      obtain ⟨hal, hlt2⟩ : Below wr.heap.size wr (wr.alloc (.cells #[.int .i64 ks[k].op, .int .i64 ks[k].n, .string ks[k].name, .slice A' ks[k].kids.length cap'] 30)) ∧ wr.heap.size < (wr.alloc (.cells #[.int .i64 ks[k].op, .int .i64 ks[k].n, .string ks[k].name, .slice A' ks[k].kids.length cap'] 30)).heap.size := ⟨(box_cells wr _ _ _ _ _).2.2.2.2.2, (box_cells wr _ _ _ _ _).2.2.2.2.1⟩
      have hbx : Bx4 (wr.alloc (.cells #[.int .i64 ks[k].op, .int .i64 ks[k].n, .string ks[k].name, .slice A' ks[k].kids.length cap'] 30)) wr.heap.size (.int .i64 ks[k].op) (.int .i64 ks[k].n) (.string ks[k].name) (.slice A' ks[k].kids.length cap') := ⟨(box_cells wr _ _ _ _ _).1, (box_cells wr _ _ _ _ _).2.1, (box_cells wr _ _ _ _ _).2.2.1, (box_cells wr _ _ _ _ _).2.2.2.1⟩
      have HBX := Lib.hid hbx
      have HWA := Lib.hid (HW.out.below hal)
      have hbal : base ≤ (wr.alloc (.cells #[.int .i64 ks[k].op, .int .i64 ks[k].n, .string ks[k].name, .slice A' ks[k].kids.length cap'] 30)).heap.size := Nat.le_trans hbr hal.size
      have HPA := Lib.hid (HP.out.trans (Put.of_below hal hbr))
      have HQF := Lib.hid (HW.out.free (Nat.le_refl wr.heap.size))
      have hbwa := hbw.trans (hal.mono hbr)
      have HX := fun W v' l' (h1 : WRow W base v' l') (h2 : Below base w W) (h2' : Below base wr W) (h3 : l'.length ≤ l.length + (callTo ks k).length + 1) => HEE.out ks[k] hfk A' cap' W base v' l' h1 (HEn.out.next h2) (hr'.below h2') (by omega)
      rw [h01] at HX
      unfold exV at HX
      have HX := fun W v' l' h1 h2 h2' h3 => Lib.hid (HX W v' l' h1 h2 h2' h3)
      have hc' : (callTo ks k).length ≤ 1000000 := by omega
      have HLEN := Lib.hid (show ((l ++ callTo ks k) : List W).length = l.length + (callTo ks k).length by simp)
      clear hfk hr' h01 htk htk1 hcl hsk
      generalize wE ks[k] 1 = we at *
      generalize hkd : ks[k] = kid at *
      clear hkd
      obtain ⟨op', n', s', ks'⟩ := kid
      dsimp only [E.op, E.n, E.name, E.kids] at d0 d1 d2 d3 HX HBX hbx HWA hbal HPA hbwa hal hlt2
      generalize callTo ks k = ck at *
      obtain ⟨x0, x1, x2, x3⟩ := hbx
      by_cases h0 : k = 0
      · have hk0 : k ≤ 0 := by omega
        have HNN := Lib.hid (HN.out.trans (if_pos h0))
        have HX1 := Lib.hid (HX _ _ _ HWA.out hbwa (hal.mono hbr) (by rw [HLEN.out]; omega)).out
        clear h0 HX
        go_wp2_with fail
        (with_reducible refine Calls.mono HX1.out ?_)
        rintro ee w3 ⟨v3, rfl, hW4, hP4⟩
        have HW4 := Lib.hid hW4
        have HP4 := Lib.hid hP4
        clear hW4 hP4
        go_wp2_with fail
        go_roundw
        case rel => exact ⟨k + 1, by omega, by go_num, by rw [HNN.out]; have := HW4.out; simpa using this, HPA.out.trans HP4.out⟩
        case measure => simp only [intOf]; omega
      · have hk0 : 0 < k := by omega
        have HNN := Lib.hid (HN.out.trans (if_neg h0))
        have AS := addText_one base _ _ ⟨#[44]⟩ 3 _ HWA.out (HEn.out.next hbwa) (by decide) kind_cm (by rw [HLEN.out]; omega)
        rw [World.size_alloc] at AS
        replace AS := Lib.hid AS
        clear h0 x0 x1 x2 x3
        go_wp2_with fail
        (with_reducible refine Calls.mono AS.out ?_)
        rintro ee w3 ⟨v3, rfl, hW4, hP4⟩
        obtain ⟨m0, m1, m2, m3⟩ := HBX.out.put hP4 hlt2 HQF.out
        have HW4 := Lib.hid hW4
        have HP4 := Lib.hid hP4
        have HX1 := Lib.hid (HX _ _ _ HW4.out (hbwa.trans HP4.out.below) ((hal.mono hbr).trans HP4.out.below) (by rw [List.length_append, HLEN.out, List.length_singleton]; exact Nat.le_refl _)).out
        clear hW4 hP4 HX
        go_wp2_with fail
        (with_reducible refine Calls.mono HX1.out ?_)
        rintro ee w5 ⟨v5, rfl, hW6, hP6⟩
        have HW6 := Lib.hid hW6
        have HP6 := Lib.hid hP6
        clear hW6 hP6 m0 m1 m2 m3
        go_wp2_with fail
        go_roundw
        case rel => exact ⟨k + 1, by omega, by go_num, by rw [HNN.out]; have := HW6.out; simpa [cmS] using this, HPA.out.trans (HP4.out.trans HP6.out)⟩
        case measure => simp only [intOf]; omega
    · obtain rfl : k = ks.length := by omega
      go_wp2_with fail
      go_ret
      exact ⟨_, rfl, HW.out, HP.out⟩
end Go.Proofs.YtoepehlndljkoaaDoor
