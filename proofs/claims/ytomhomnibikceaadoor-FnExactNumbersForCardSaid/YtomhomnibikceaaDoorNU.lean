/-
  When the model takes a unit for one; how many instructions it counts.
-/
import Derived.Test.YtomhomnibikceaaDoorNT
import Derived.Test.YtomhomnibikceaaDoorNQ
namespace Go.Proofs.YtomhomnibikceaaDoor
open Go.RowKit
set_option maxRecDepth 100000

/-- What the model's loops have found good so far. -/
def goodTo (cs : List Cd) (k : Nat) : Prop := ∀ j, (h : j < cs.length) → j < k → sizesB cs[j] = true ∧ codeB cs j cs[j] = true
def goodIn (cs : List Cd) (k : Nat) (c : Cd) (m : Nat) : Prop := ∀ j, (h : j < c.blocks.length) → j < m → blockB cs k c j c.blocks[j] = true
set_option maxHeartbeats 8000000 in
theorem specUnitValid_any (u : Un) (hn : bulkUn u ≤ 1048576) (v : Value) (w : World) (hV : UnV w (Lt w.heap.size) u v) :
    Calls Tryd.prog 21 #[v] w (BoolB (unB u) w) := by
  obtain ⟨A, cap, rfl, hR⟩ := hV
  have HV := Lib.hid (unB_iff u)
  generalize unB u = res at *
  obtain ⟨cs⟩ := u
  unfold bulkUn at hn
  dsimp only at *
  have hln : cs.length ≤ 1048576 := by have := length_le_bulkR bulkCd cs; omega
  have hcb : cntCL cs ≤ 1048576 := by have := cntCL_bulk cs; omega
  have HCB := Lib.hid hcb
  clear hcb
  have HLB := Lib.hid (show ∀ i, (h : i < cs.length) → cs[i].blocks.length ≤ 1048576 from fun i h => by
    have := bulkR_mem (f := bulkCd) (List.getElem_mem h)
    have := length_le_bulkR bulkBk cs[i].blocks
    unfold bulkCd at *; omega)
  have CL := fun W => uIn_any (cs.length : Int) 1 4 W
  have HB : Hid (∀ (k b : Nat) (hk : k < cs.length) (hb : b < cs[k].blocks.length) (_ : 0 ≤ cs[k].regs) (_ : cs[k].regs ≤ 300) (W : World) (_ : Below w.heap.size w W), Calls Tryd.prog 43 #[.agg #[.slice A cs.length cap], .int .i64 k, .int .i64 b] W (BoolB (blockB cs k cs[k] b cs[k].blocks[b]) W)) := Lib.hid fun k b hk hb h0 h1 W h => l7Block_any cs A cap k b hk hb W (hR.on h h.size) hn h0 h1
  have HR := Lib.hid hR
  clear hR hn
  have hb0 : Below w.heap.size w (w.alloc (.cells #[.slice A cs.length cap] 30)) := (Below.refl _ _).alloc (Nat.le_refl _) _
  have hl0 : w.heap.size < (w.alloc (.cells #[.slice A cs.length cap] 30)).heap.size := by rw [World.size_alloc]; omega
  have K0 := Lib.hid (BoxV.new w [.slice A cs.length cap] 30)
  by_cases q1 : ¬ (1 ≤ (cs.length : Int) ∧ (cs.length : Int) ≤ 4)
  · have HW := Lib.hid (show res = false by
      cases res
      · rfl
      · have := (HV.out.1 rfl).1; omega)
    simp only [decide_eq_false q1] at CL
    replace CL := fun W => Lib.hid (CL W)
    clear HV HB HR HLB q1
    go_enter Tryd.func21, Tryd.ntmps21
    go_wp2_with fail
    (with_reducible refine Calls.mono (CL _).out ?_)
    rintro ee w1 ⟨rfl, rfl⟩
    go_wp2_with fail
    go_ret
    exact ⟨ret_bool' HW.out.symm, hb0⟩
  replace q1 : 1 ≤ (cs.length : Int) ∧ (cs.length : Int) ≤ 4 := by omega
  simp only [decide_eq_true q1] at CL
  replace CL := fun W => Lib.hid (CL W)
  have HV2 := Lib.hid (show res = true ↔ (∀ k, (h : k < cs.length) → sizesB cs[k] = true) ∧ cntCL cs ≤ 800 ∧ ∀ k, (h : k < cs.length) → codeB cs k cs[k] = true from ⟨fun h => (HV.out.1 h).2, fun h => HV.out.2 ⟨by omega, h⟩⟩)
  clear HV
  go_enter Tryd.func21, Tryd.ntmps21
  go_wp2_with fail
  (with_reducible refine Calls.mono (CL _).out ?_)
  rintro ee w1 ⟨rfl, rfl⟩
  go_wp2_with fail
  have ee0 : w.alloc (.cells [.slice A cs.length cap].toArray 30) = w.alloc (.cells #[.slice A cs.length cap] 30) := rfl
  rw [ee0] at K0
  clear ee0 CL
  generalize w.alloc (.cells #[.slice A cs.length cap] 30) = wa at *
  go_loopw [3, 4] (fun v i wr => ∃ (k : Nat), k ≤ cs.length ∧ i = .int .i64 k ∧ v = .int .i64 (cntCL (cs.take k) : Nat) ∧ cntCL (cs.take k) ≤ 800 ∧ goodTo cs k ∧ Below wa.heap.size wa wr) (fun _ i _ => cs.length - (intOf i).toNat)
  case atStart => exact ⟨0, Nat.zero_le _, rfl, rfl, Nat.zero_le _, fun j _ hj => absurd hj (by omega), Below.refl _ _⟩
  case round =>
    obtain ⟨k, hk, rfl, rfl, h800, hgood, hb1⟩ := hrel
    have HG := Lib.hid hgood
    clear hgood
    have hb2 := hb0.trans (hb1.mono (Nat.le_of_lt hl0))
    have hbs2 := hb2.size
    have Kr := Lib.hid (K0.out.below hb1 hl0)
    have hlr := Nat.lt_of_lt_of_le hl0 hb1.size
    have k0 := Kr.out 0 _ rfl
    by_cases hlt : k < cs.length
    · obtain ⟨b, o, hA, hB, d0, d1, A2, c2, d2, r2⟩ := (HR.out.on hb2 hbs2).at_ hlt
      have HT := Lib.hid (cntCL_take hlt)
      have HLE := Lib.hid (cntCL_le cs (k + 1))
      have hlb := HLB.out k hlt
      have HBK := fun b hb h0 h1 => HB.out k b hlt hb h0 h1
      have HSZ := Lib.hid (show sizesB cs[k] = decide ((0 ≤ cs[k].params ∧ cs[k].params ≤ 3 ∧ cs[k].params ≤ cs[k].regs ∧ cs[k].regs ≤ 300) ∧ 1 ≤ cs[k].blocks.length ∧ cs[k].blocks.length ≤ 160) from rfl)
      have HS := Lib.hid (show sizesB cs[k] = true → goodIn cs k cs[k] cs[k].blocks.length → goodTo cs (k + 1) from fun h1 h2 j hj hjk => by
        by_cases e : j = k
        · subst e; exact ⟨h1, (codeB_iff _ _ _).2 fun b hb => h2 b hb hb⟩
        · exact HG.out j hj (by omega))
      have HF1 := Lib.hid (show sizesB cs[k] = false → res = false from fun h => by
        cases res
        · rfl
        · rw [(HV2.out.1 rfl).1 k hlt] at h; cases h)
      have HF2 := Lib.hid (show ∀ b, (hb : b < cs[k].blocks.length) → blockB cs k cs[k] b cs[k].blocks[b] = false → res = false from fun b hb h => by
        cases res
        · rfl
        · rw [(codeB_iff _ _ _).1 ((HV2.out.1 rfl).2.2 k hlt) b hb] at h; cases h)
      have HF3 := Lib.hid (show 800 < cntCL cs → res = false from fun h => by
        cases res
        · rfl
        · have := (HV2.out.1 rfl).2.1; omega)
      have HXX := Lib.hid (show cntC cs[k] = cntBL cs[k].blocks from rfl)
      have hal := (Below.refl wr.heap.size wr).alloc (Nat.le_refl _) (.cells #[.int .i64 cs[k].params, .int .i64 cs[k].regs, .slice A2 cs[k].blocks.length c2] 44)
      have hb3 := hb2.trans (hal.mono hbs2)
      have K3 := Lib.hid (Kr.out.below hal hlr)
      have Y3 := Lib.hid (BoxV.new wr [.int .i64 cs[k].params, .int .i64 cs[k].regs, .slice A2 cs[k].blocks.length c2] 44)
      have hy3 : wr.heap.size < (wr.alloc (.cells #[.int .i64 cs[k].params, .int .i64 cs[k].regs, .slice A2 cs[k].blocks.length c2] 44)).heap.size := by rw [World.size_alloc]; omega
      have hl3 := Nat.lt_of_lt_of_le hlr hal.size
      have hb13 : Below wa.heap.size wa (wr.alloc (.cells #[.int .i64 cs[k].params, .int .i64 cs[k].regs, .slice A2 cs[k].blocks.length c2] 44)) := hb1.alloc hb1.size _
      have HR2 := Lib.hid (r2.on hal hal.size)
      have L1 := fun W => uIn_any cs[k].params 0 3 W
      have L2 := fun W => uIn_any cs[k].regs cs[k].params 300 W
      have L3 := fun W => uIn_any (cs[k].blocks.length : Int) 1 160 W
      clear HB r2 HG HLB hal Kr
      generalize hsz : sizesB cs[k] = sz at *
      clear hsz
      generalize cntC cs[k] = cc at *
      generalize hm0 : cntCL (cs.take k) = m0 at *
      clear hm0
      generalize hgi : goodIn cs k cs[k] = gi at *
      have HGI := Lib.hid (show ∀ m, gi m ↔ ∀ j, (h : j < cs[k].blocks.length) → j < m → blockB cs k cs[k] j cs[k].blocks[j] = true from fun m => by rw [← hgi]; exact Iff.rfl)
      clear hgi
      generalize hbb : blockB cs k cs[k] = bB at *
      clear hbb
      generalize cs[k] = c at *
      obtain ⟨p, g, bs⟩ := c
      dsimp only at *
      subst hA
      have y0 := Y3.out 0 _ rfl
      have y1 := Y3.out 1 _ rfl
      have y2 := Y3.out 2 _ rfl
      by_cases z1 : ¬ (0 ≤ p ∧ p ≤ 3)
      · have HW := Lib.hid (HF1.out (by rw [HSZ.out]; exact decide_eq_false (by omega)))
        simp only [decide_eq_false z1] at L1
        replace L1 := fun W => Lib.hid (L1 W)
        clear HS HF1 HF2 HF3 HBK z1 L2 L3
        go_wp2_with (go_at_call 42; (with_reducible refine Calls.mono (L1 _).out ?_); rintro ee w1 ⟨rfl, rfl⟩)
        go_ret
        exact ⟨ret_bool' HW.out.symm, hb3⟩
      replace z1 : 0 ≤ p ∧ p ≤ 3 := by omega
      simp only [decide_eq_true z1] at L1
      replace L1 := fun W => Lib.hid (L1 W)
      by_cases z2 : ¬ (p ≤ g ∧ g ≤ 300)
      · have HW := Lib.hid (HF1.out (by rw [HSZ.out]; exact decide_eq_false (by omega)))
        simp only [decide_eq_false z2] at L2
        replace L2 := fun W => Lib.hid (L2 W)
        clear HS HF1 HF2 HF3 HBK z1 z2 L3
        go_wp2_with (first | (go_at_call 42; (with_reducible refine Calls.mono (L1 _).out ?_); rintro ee w1 ⟨rfl, rfl⟩) | (go_at_call 42; (with_reducible refine Calls.mono (L2 _).out ?_); rintro ee w1 ⟨rfl, rfl⟩))
        go_ret
        exact ⟨ret_bool' HW.out.symm, hb3⟩
      replace z2 : p ≤ g ∧ g ≤ 300 := by omega
      simp only [decide_eq_true z2] at L2
      replace L2 := fun W => Lib.hid (L2 W)
      by_cases z3 : ¬ (1 ≤ (bs.length : Int) ∧ (bs.length : Int) ≤ 160)
      · have HW := Lib.hid (HF1.out (by rw [HSZ.out]; exact decide_eq_false (by omega)))
        simp only [decide_eq_false z3] at L3
        replace L3 := fun W => Lib.hid (L3 W)
        clear HS HF1 HF2 HF3 HBK z1 z2 z3
        go_wp2_with (first | (go_at_call 42; (with_reducible refine Calls.mono (L1 _).out ?_); rintro ee w1 ⟨rfl, rfl⟩) | (go_at_call 42; (with_reducible refine Calls.mono (L2 _).out ?_); rintro ee w1 ⟨rfl, rfl⟩) | (go_at_call 42; (with_reducible refine Calls.mono (L3 _).out ?_); rintro ee w1 ⟨rfl, rfl⟩))
        go_ret
        exact ⟨ret_bool' HW.out.symm, hb3⟩
      replace z3 : 1 ≤ (bs.length : Int) ∧ (bs.length : Int) ≤ 160 := by omega
      simp only [decide_eq_true z3] at L3
      replace L3 := fun W => Lib.hid (L3 W)
      have hsz : sz = true := by rw [HSZ.out]; exact decide_eq_true (by omega)
      have HS2 := Lib.hid (HS.out hsz)
      have HBK2 := Lib.hid (fun b hb => HBK b hb (by omega) (by omega))
      clear HS HF1 HSZ HBK hsz
      go_wp2_with (first | (go_at_call 42; (with_reducible refine Calls.mono (L1 _).out ?_); rintro ee w1 ⟨rfl, rfl⟩) | (go_at_call 42; (with_reducible refine Calls.mono (L2 _).out ?_); rintro ee w1 ⟨rfl, rfl⟩) | (go_at_call 42; (with_reducible refine Calls.mono (L3 _).out ?_); rintro ee w1 ⟨rfl, rfl⟩))
      generalize hwb : wr.alloc (.cells #[.int .i64 p, .int .i64 g, .slice A2 bs.length c2] 44) = wb at *
      clear hwb y0 y1 y2 k0 L1 L2 L3
      have hwrs := hb3.size
      go_loopw [3, 6] (fun v i u => ∃ (m : Nat), m ≤ bs.length ∧ i = .int .i64 m ∧ v = .int .i64 ((m0 + cntBL (bs.take m) : Nat) : Int) ∧ m0 + cntBL (bs.take m) ≤ 800 ∧ gi m ∧ Below wb.heap.size wb u) (fun _ i _ => bs.length - (intOf i).toNat)
      case atStart => exact ⟨0, Nat.zero_le _, rfl, rfl, h800, (HGI.out 0).2 (fun j _ hj => absurd hj (by omega)), Below.refl _ _⟩
      case round =>
        obtain ⟨m, hm, rfl, rfl, hm8, hgm, hb4⟩ := hrel
        have HGM := Lib.hid hgm
        clear hgm
        have hb5 := hb3.trans (hb4.mono hb3.size)
        have hbs5 := hb5.size
        have K4 := Lib.hid (K3.out.below hb4 hl3)
        have Y4 := Lib.hid (Y3.out.below hb4 hy3)
        have y2 := Y4.out 2 _ rfl
        have k0 := K4.out 0 _ rfl
        by_cases hlm : m < bs.length
        · obtain ⟨b4, o4, rfl, hB4, ⟨A5, c5, f0, _⟩, ⟨A6, c6, f1, _⟩, _⟩ := (HR2.out.on hb4 hb4.size).at_ hlm
          have HT2 := Lib.hid (cntBL_take hlm)
          have HX2 := Lib.hid (show cntB bs[m] = bs[m].ins.length + bs[m].phis.length from rfl)
          have HLE2 := Lib.hid (cntBL_le bs (m + 1))
          have CB := fun W h => HBK2.out m hlm W h
          have HF := Lib.hid (HF2.out m hlm)
          have HGS := Lib.hid (show bB m bs[m] = true → gi (m + 1) from fun h => (HGI.out _).2 fun j hj hjk => by
            by_cases e : j = m
            · subst e; exact h
            · exact (HGI.out m).1 HGM.out j hj (by omega))
          generalize bB m bs[m] = z at *
          generalize cntB bs[m] = cb at *
          generalize bs[m] = y at *
          obtain ⟨y0, y1, y2', y3, y4⟩ := y
          dsimp only at *
          have hin : y1.length ≤ 1048576 ∧ y0.length ≤ 1048576 := by have := HLE.out; have := HCB.out; have := HT.out; have := HXX.out; have := HT2.out; have := HX2.out; have := HLE2.out; omega
          generalize hm2 : cntBL (bs.take m) = m2 at *
          by_cases h8 : 800 < m0 + m2 + (y1.length + y0.length)
          · have HW := Lib.hid (HF3.out (by have := HLE.out; have := HT.out; have := HXX.out; have := HT2.out; have := HX2.out; have := HLE2.out; omega))
            clear HF HGS CB HGM
            go_wp2_with fail
            go_quiet (fail)
            all_goals
              have hb6 := below_drewN hb5 nq
              go_wp2_with fail
              go_ret
              exact ⟨ret_bool' HW.out.symm, hb6⟩
          · cases z
            · have HW := Lib.hid (HF.out rfl)
              replace CB := fun W h => Lib.hid (CB W h)
              clear HF HGS HGM
              go_wp2_with fail
              go_quiet (fail)
              all_goals
                have hb6 := below_drewN hb5 nq
                go_wp2_with fail
                (with_reducible refine Calls.mono (CB _ hb6).out ?_)
                rintro ee w7 ⟨rfl, hb7⟩
                have hb8 := hb6.trans (hb7.mono hb6.size)
                go_wp2_with fail
                go_ret
                exact ⟨ret_bool' HW.out.symm, hb8⟩
            · have HW := Lib.hid (HGS.out rfl)
              replace CB := fun W h => Lib.hid (CB W h)
              clear HF HGS HGM
              go_wp2_with fail
              go_quiet (fail)
              all_goals
                have hb6 := below_drewN hb5 nq
                have hb46 := below_drewN hb4 nq
                go_wp2_with fail
                (with_reducible refine Calls.mono (CB _ hb6).out ?_)
                rintro ee w7 ⟨rfl, hb7⟩
                have hb8 := hb46.trans (hb7.mono hb46.size)
                go_wp2_with fail
                go_roundw
                case rel => exact ⟨m + 1, by omega, by go_num, ret_int'' (by rw [HT2.out, HX2.out]; omega), by rw [HT2.out, HX2.out]; omega, HW.out, hb8⟩
                case measure => simp only [intOf]; omega
        · obtain rfl : m = bs.length := by omega
          have HW := Lib.hid (HS2.out HGM.out)
          clear HGM
          go_wp2_with fail
          go_roundw
          case rel => exact ⟨k + 1, by omega, by go_num, ret_int'' (by rw [HT.out, HXX.out, List.take_length]), by rw [List.take_length] at hm8; rw [HT.out, HXX.out]; exact hm8, HW.out, hb13.trans (hb4.mono hb13.size)⟩
          case measure => simp only [intOf]; omega
    · obtain rfl : k = cs.length := by omega
      have HW := Lib.hid (show res = true from HV2.out.2 ⟨fun k hk => (HG.out k hk hk).1, by rw [List.take_length] at h800; exact h800, fun k hk => (HG.out k hk hk).2⟩)
      go_wp2_with fail
      go_ret
      exact ⟨ret_bool' HW.out.symm, hb2⟩
end Go.Proofs.YtomhomnibikceaaDoor
