/-
  What the model asks of a block.
-/
import Derived.Test.YtomhomnibikceaaDoorNR
import Derived.Test.YtomhomnibikceaaDoorNN
namespace Go.Proofs.YtomhomnibikceaaDoor
open Go.RowKit
set_option maxRecDepth 100000

set_option maxHeartbeats 16000000 in
theorem l7Block_j2 (cs : List Cd) (A : Option Addr) (cap k b : Nat) (hk : k < cs.length) (hbb : b < cs[k].blocks.length) (w : World) (hR : CdS w (Lt w.heap.size) cs A) (hn : bulkR bulkCd cs ≤ 1048576) (hg0 : 0 ≤ cs[k].regs) (hg1 : cs[k].regs ≤ 300) (hjv : cs[k].blocks[b].jump = 2) :
    Calls Tryd.prog 43 #[.agg #[.slice A cs.length cap], .int .i64 k, .int .i64 b] w (BoolB (blockB cs k cs[k] b cs[k].blocks[b]) w) := by
  have hln : cs.length ≤ 1048576 := by have := length_le_bulkR bulkCd cs; omega
  have hcn : bulkCd cs[k] ≤ 1048576 := by have := bulkR_mem (f := bulkCd) (List.getElem_mem hk); omega
  have hbl : cs[k].blocks.length ≤ 1048576 := by have := length_le_bulkR bulkBk cs[k].blocks; unfold bulkCd at hcn; omega
  have hbk := bulk_block hbb hcn
  obtain ⟨hpb, hib, hnb⟩ := bulk_parts hbk
  obtain ⟨b0, o0, hA, hB0, d0, d1, A2, c2, d2, r2⟩ := hR.at_ hk
  obtain ⟨b1, o1, hA2, hB1, ⟨A3, c3, f0, r3⟩, ⟨A4, c4, f1, r4⟩, f2, f3, A5, c5, f4, r5⟩ := r2.at_ hbb
  have HI : Hid (∀ (j : Nat) (hj : j < cs[k].blocks[b].ins.length) (W : World) (_ : Below w.heap.size w W) (v : Value), IkV W (Lt W.heap.size) cs[k].blocks[b].ins[j] v → Calls Tryd.prog 65 #[.agg #[.slice A cs.length cap], .int .i64 k, v] W (BoolB (insB cs k cs[k] cs[k].blocks[b].ins[j]) W)) := Lib.hid fun j hj W h v hv =>
    l7Ins_any cs A cap k hk _ v W hv (hR.on h h.size) (by have := bulkR_mem (f := bulkIk) (List.getElem_mem hj); omega) hln hg0 hg1
  have HP : Hid (∀ (W : World) (_ : Below w.heap.size w W), Calls Tryd.prog 66 #[cdv cs[k] A2 c2, .int .i64 b] W (PRet (predsL cs[k] b) W)) := Lib.hid fun W h => l7Preds_any cs[k] A2 c2 b W (r2.on h h.size) hcn
  have HG : Hid (∀ (j : Nat) (hj : j < cs[k].blocks[b].phis.length) (W : World) (_ : Below w.heap.size w W) (Aj : Option Addr) (cj : Nat), NumS W (Lt W.heap.size) cs[k].blocks[b].phis[j].args Aj → Calls Tryd.prog 67 #[cdv cs[k] A2 c2, .slice Aj cs[k].blocks[b].phis[j].args.length cj] W (BoolB (regsB cs[k] cs[k].blocks[b].phis[j].args) W)) := Lib.hid fun j hj W h Aj cj hr =>
    l7Regs_any cs[k] A2 c2 _ (by
      have := bulkR_mem (f := bulkPh) (List.getElem_mem hj)
      unfold bulkPh at this hpb; omega) Aj cj W hr hg0 hg1
  have HPL := Lib.hid (show (predsL cs[k] b).length ≤ 1048576 from by have := predsTo_len cs[k].blocks b cs[k].blocks.length; unfold predsL; omega)
  have HR3 := Lib.hid r3
  have HR4 := Lib.hid r4
  have HR5 := Lib.hid r5
  have HLP := Lib.hid (show ∀ j, (h : j < cs[k].blocks[b].phis.length) → cs[k].blocks[b].phis[j].args.length ≤ 1048576 from fun j hj => by
    have := bulkR_mem (f := bulkPh) (List.getElem_mem hj)
    unfold bulkPh at this hpb; omega)
  have hpl : cs[k].blocks[b].phis.length ≤ 1048576 := by have := length_le_bulkR bulkPh cs[k].blocks[b].phis; omega
  have hil : cs[k].blocks[b].ins.length ≤ 1048576 := by have := length_le_bulkR bulkIk cs[k].blocks[b].ins; omega
  clear hR r2 r3 r4 r5 hbk hpb hib
  have HV := Lib.hid (show blockB cs k cs[k] b cs[k].blocks[b] = (jumpB cs[k] cs[k].blocks[b] && (cs[k].blocks[b].ins.all (insB cs k cs[k]) && cs[k].blocks[b].phis.all (phiB cs[k] b))) from rfl)
  generalize blockB cs k cs[k] b cs[k].blocks[b] = res at *
  have HJ := Lib.hid (show jumpB cs[k] cs[k].blocks[b] = (decide (1 ≤ cs[k].blocks[b].jump ∧ cs[k].blocks[b].jump ≤ 3) && (onB cs[k] cs[k].blocks[b] && (decide ((cs[k].blocks[b].next.length : Int) = jNext cs[k].blocks[b].jump) && cs[k].blocks[b].next.all (nextB cs[k])))) from rfl)
  generalize jumpB cs[k] cs[k].blocks[b] = jb at *
  have HO := Lib.hid (show onB cs[k] cs[k].blocks[b] = if jUses cs[k].blocks[b].jump then regB cs[k] cs[k].blocks[b].on else decide (cs[k].blocks[b].on = 0) from rfl)
  generalize onB cs[k] cs[k].blocks[b] = ob at *
  have HPH := Lib.hid (show ∀ p, phiB cs[k] b p = (decide (b ≠ 0) && (regB cs[k] p.to && (decide (p.args.length = (predsL cs[k] b).length) && regsB cs[k] p.args))) from fun _ => rfl)
  have HRB := Lib.hid (show ∀ r, regB cs[k] r = decide (0 ≤ r ∧ r ≤ cs[k].regs - 1) from fun r => regB_in cs[k] r)
  have HNB := Lib.hid (show ∀ r, nextB cs[k] r = decide (1 ≤ r ∧ r ≤ (cs[k].blocks.length : Int) - 1) from fun r => by
    unfold nextB
    by_cases h : 1 ≤ r ∧ r < cs[k].blocks.length
    · rw [decide_eq_true h, decide_eq_true (by omega)]
    · rw [decide_eq_false h, decide_eq_false (by omega)])
  generalize cs[k].blocks[b] = x at *
  unfold cdv at HP HG
  generalize predsL cs[k] b = pl at *
  generalize phiB cs[k] b = phB at *
  generalize insB cs k cs[k] = inB at *
  generalize regB cs[k] = rgB at *
  generalize regsB cs[k] = rsB at *
  generalize nextB cs[k] = nxB at *
  generalize cs[k] = c at *
  obtain ⟨p, g, bs⟩ := c
  obtain ⟨ph, is, jp, on, nx⟩ := x
  dsimp only at *
  subst hA2
  subst hA
  have sz1 : (w.alloc (.cells #[.slice (some ⟨b0, o0, none⟩) cs.length cap] 30)).heap.size = w.heap.size + 1 := World.size_alloc _ _
  have sz2 : ((w.alloc (.cells #[.slice (some ⟨b0, o0, none⟩) cs.length cap] 30)).alloc (.cells #[.int .i64 p, .int .i64 g, .slice (some ⟨b1, o1, none⟩) bs.length c2] 44)).heap.size = w.heap.size + 1 + 1 := by rw [World.size_alloc, sz1]
  have hb2 := two_boxes w (.cells #[.slice (some ⟨b0, o0, none⟩) cs.length cap] 30) (.cells #[.int .i64 p, .int .i64 g, .slice (some ⟨b1, o1, none⟩) bs.length c2] 44)
  have hb : Below w.heap.size w (((w.alloc (.cells #[.slice (some ⟨b0, o0, none⟩) cs.length cap] 30)).alloc (.cells #[.int .i64 p, .int .i64 g, .slice (some ⟨b1, o1, none⟩) bs.length c2] 44)).alloc (.cells #[.slice A3 ph.length c3, .slice A4 is.length c4, .int .i64 jp, .int .i64 on, .slice A5 nx.length c5] 56)) := hb2.alloc hb2.size _
  have K0 := Lib.hid (((BoxV.new w [.slice (some ⟨b0, o0, none⟩) cs.length cap] 30).below ((Below.refl _ _).alloc (Nat.le_refl _) (.cells #[.int .i64 p, .int .i64 g, .slice (some ⟨b1, o1, none⟩) bs.length c2] 44)) (by rw [World.size_alloc]; omega)).below ((Below.refl _ _).alloc (Nat.le_refl _) (.cells #[.slice A3 ph.length c3, .slice A4 is.length c4, .int .i64 jp, .int .i64 on, .slice A5 nx.length c5] 56)) (by rw [sz2]; omega))
  have Y0 := BoxV.new (w.alloc (.cells #[.slice (some ⟨b0, o0, none⟩) cs.length cap] 30)) [.int .i64 p, .int .i64 g, .slice (some ⟨b1, o1, none⟩) bs.length c2] 44
  rw [sz1] at Y0
  replace Y0 := Lib.hid (Y0.below ((Below.refl _ _).alloc (Nat.le_refl _) (.cells #[.slice A3 ph.length c3, .slice A4 is.length c4, .int .i64 jp, .int .i64 on, .slice A5 nx.length c5] 56)) (by rw [sz2]; omega))
  have X0 := BoxV.new ((w.alloc (.cells #[.slice (some ⟨b0, o0, none⟩) cs.length cap] 30)).alloc (.cells #[.int .i64 p, .int .i64 g, .slice (some ⟨b1, o1, none⟩) bs.length c2] 44)) [.slice A3 ph.length c3, .slice A4 is.length c4, .int .i64 jp, .int .i64 on, .slice A5 nx.length c5] 56
  rw [sz2] at X0
  replace X0 := Lib.hid X0
  have hx0 : w.heap.size + 1 + 1 < (((w.alloc (.cells #[.slice (some ⟨b0, o0, none⟩) cs.length cap] 30)).alloc (.cells #[.int .i64 p, .int .i64 g, .slice (some ⟨b1, o1, none⟩) bs.length c2] 44)).alloc (.cells #[.slice A3 ph.length c3, .slice A4 is.length c4, .int .i64 jp, .int .i64 on, .slice A5 nx.length c5] 56)).heap.size := by rw [World.size_alloc, sz2]; omega
  have hbs := hb.size
  have hb1w : Below w.heap.size w (w.alloc (.cells #[.slice (some ⟨b0, o0, none⟩) cs.length cap] 30)) := (Below.refl _ _).alloc (Nat.le_refl _) _
  have e0 := (hb1w.cell (p := ⟨b0, o0 + k * 3, none⟩) hB0).trans d0
  have e1 := (hb1w.cell (p := ⟨b0, o0 + k * 3 + 1, none⟩) hB0).trans d1
  have e2 := (hb1w.cell (p := ⟨b0, o0 + k * 3 + 2, none⟩) hB0).trans d2
  have q0 := (hb2.cell (p := ⟨b1, o1 + b * 5, none⟩) hB1).trans f0
  have q1 := (hb2.cell (p := ⟨b1, o1 + b * 5 + 1, none⟩) hB1).trans f1
  have q2 := (hb2.cell (p := ⟨b1, o1 + b * 5 + 2, none⟩) hB1).trans f2
  have q3 := (hb2.cell (p := ⟨b1, o1 + b * 5 + 3, none⟩) hB1).trans f3
  have q4 := (hb2.cell (p := ⟨b1, o1 + b * 5 + 4, none⟩) hB1).trans f4
  clear sz1 sz2 d0 d1 d2 f0 f1 f2 f3 f4 hb1w hb2
  have hwr : IntKind.i64.wrap (g - 1) = g - 1 := IntWalk.i64_in _ ⟨by omega, by omega⟩
  have hwr2 : IntKind.i64.wrap ((bs.length : Int) - 1) = (bs.length : Int) - 1 := IntWalk.i64_in _ ⟨by omega, by omega⟩
  have LON := fun W => uIn_any on 0 (g - 1) W
  rw [← HRB.out] at LON
  generalize hzo : rgB on = zo at *

  subst hjv
  rw [decide_eq_true (by omega), Bool.true_and] at HJ
  rw [show jUses 2 = true from rfl, if_pos rfl] at HO
  rw [show jNext 2 = 2 from rfl] at HJ
  have HZ := Lib.hid hzo
  clear hzo
  by_cases hl : (nx.length : Int) = 2
  · have j9 : ((nx.length : Int) != 2) = false := by rw [bne, beq_yes hl]; rfl
    cases zo
    · have HW := Lib.hid (show res = false by rw [HV.out, HJ.out, HO.out]; rfl)
      replace LON := fun W => Lib.hid (LON W)
      clear HJ HV HO hl HI HP HG HPL HR3 HR4 HR5 HPH HRB HNB HZ
      go_enter Tryd.func43, Tryd.ntmps43
      go_wp2_with fail
      (with_reducible refine Calls.mono (LON _).out ?_)
      rintro ee w1 ⟨rfl, rfl⟩
      go_wp2_with fail
      go_ret
      exact ⟨ret_bool' HW.out.symm, hb⟩
    · have HJ3 := Lib.hid (show res = (nx.all nxB && (is.all inB && ph.all phB)) by rw [HV.out, HJ.out, HO.out, decide_eq_true hl]; rfl)
      replace LON := fun W => Lib.hid (LON W)
      clear HJ HV HO hl HZ
      go_enter Tryd.func43, Tryd.ntmps43
      go_wp2_with fail
      (with_reducible refine Calls.mono (LON _).out ?_)
      rintro ee w1 ⟨rfl, rfl⟩
      clear LON
      go_wp2_with fail
      generalize hwa : ((w.alloc (.cells #[.slice (some ⟨b0, o0, none⟩) cs.length cap] 30)).alloc (.cells #[.int .i64 p, .int .i64 g, .slice (some ⟨b1, o1, none⟩) bs.length c2] 44)).alloc (.cells #[.slice A3 ph.length c3, .slice A4 is.length c4, .int .i64 2, .int .i64 on, .slice A5 nx.length c5] 56) = wa at *
      clear hwa e0 e1 e2 q0 q1 q2 q3 q4
      go_loopw [10] (fun i wr => ∃ (m : Nat), m ≤ nx.length ∧ i = .int .i64 m ∧ (∀ j, (h : j < nx.length) → j < m → nxB nx[j] = true) ∧ Below wa.heap.size wa wr) (fun i _ => nx.length - (intOf i).toNat)
      case atStart => exact ⟨0, Nat.zero_le _, rfl, fun j _ hj => absurd hj (by omega), Below.refl _ _⟩
      case round =>
        obtain ⟨m, hm, rfl, hall, hb3⟩ := hrel
        have HA := Lib.hid hall
        clear hall
        have hb4 := hb.trans (hb3.mono hbs)
        have Xr := Lib.hid (X0.out.below hb3 hx0)
        have Yr := Lib.hid (Y0.out.below hb3 (Nat.lt_of_succ_lt hx0))
        have y1 := Yr.out 1 _ rfl
        have y2 := Yr.out 2 _ rfl
        have x4 := Xr.out 4 _ rfl
        by_cases hlm : m < nx.length
        · obtain ⟨b5, o5, rfl, hB5, s0⟩ := HR5.out.at_ hlm
          have z0 := (hb4.cell (p := ⟨b5, o5 + m, none⟩) hB5).trans s0
          clear s0
          have LN := fun W => uIn_any nx[m] 1 ((bs.length : Int) - 1) W
          rw [← HNB.out] at LN
          have HN := Lib.hid (show nxB nx[m] = false → res = false from fun h => by rw [HJ3.out, all_no hlm h]; rfl)
          have HS := Lib.hid (show nxB nx[m] = true → ∀ j, (h : j < nx.length) → j < m + 1 → nxB nx[j] = true from fun h j hj hjk => by
            by_cases e : j = m
            · subst e; exact h
            · exact HA.out j hj (by omega))
          clear HA
          generalize nxB nx[m] = zn at *
          generalize nx[m] = r at *
          cases zn
          · have HW := Lib.hid (HN.out rfl)
            replace LN := fun W => Lib.hid (LN W)
            clear HN HS
            go_wp2_with fail
            go_quiet (first | (go_at_call 42; exact Calls.quiet_of_same ((LN _).out.mono fun _ _ h => ⟨h.1, h.2.symm⟩)))
            all_goals
              have hb6 := below_drewN hb4 nq
              go_wp2_with fail
              go_ret
              exact ⟨ret_bool' HW.out.symm, hb6⟩
          · have HW := Lib.hid (HS.out rfl)
            replace LN := fun W => Lib.hid (LN W)
            clear HN HS
            go_wp2_with fail
            go_quiet (first | (go_at_call 42; exact Calls.quiet_of_same ((LN _).out.mono fun _ _ h => ⟨h.1, h.2.symm⟩)))
            all_goals
              have hb6 := below_drewN hb3 nq
              go_wp2_with fail
              go_roundw
              case rel => exact ⟨m + 1, by omega, by go_num, HW.out, hb6⟩
              case measure => simp only [intOf]; omega
        · obtain rfl : m = nx.length := by omega
          have HJ4 := Lib.hid (show res = (is.all inB && ph.all phB) by rw [HJ3.out, all_yes (fun i hi => HA.out i hi hi), Bool.true_and])
          have K3 := Lib.hid (K0.out.below hb3 (Nat.lt_of_succ_lt (Nat.lt_of_succ_lt hx0)))
          have hx3 := Nat.lt_of_lt_of_le hx0 hb3.size
          have hbs4 := hb4.size
          clear HA HJ3 HNB HR5
          go_wp2_with fail
          clear y1 y2 x4
          go_loopw [11] (fun i u => ∃ (m : Nat), m ≤ is.length ∧ i = .int .i64 m ∧ (∀ j, (h : j < is.length) → j < m → inB is[j] = true) ∧ Below wr.heap.size wr u) (fun i _ => is.length - (intOf i).toNat)
          case atStart => exact ⟨0, Nat.zero_le _, rfl, fun j _ hj => absurd hj (by omega), Below.refl _ _⟩
          case round =>
            rename_i wr _
            obtain ⟨m, hm2, rfl, hall, hb5⟩ := hrel
            have HA := Lib.hid hall
            clear hall
            have hb6 := hb4.trans (hb5.mono hbs4)
            have hbs6 := hb6.size
            have Xu := Lib.hid (Xr.out.below hb5 hx3)
            have Yu := Lib.hid (Yr.out.below hb5 (Nat.lt_of_succ_lt hx3))
            have Ku := Lib.hid (K3.out.below hb5 (Nat.lt_of_succ_lt (Nat.lt_of_succ_lt hx3)))
            have hxu := Nat.lt_of_lt_of_le hx3 hb5.size
            have x1 := Xu.out 1 _ rfl
            have k0 := Ku.out 0 _ rfl
            have hbd := hb6.drew
            by_cases hlm2 : m < is.length
            · obtain ⟨b7, o7, rfl, hB7, g0, g1, ⟨A7, c7, g2, rr⟩, g3⟩ := (HR4.out.on hb6 hbs6).at_ hlm2
              have CK := HI.out m hlm2 wr.drew hbd _ ⟨A7, c7, rfl, rr.on (Below.refl wr.heap.size wr).drew (Below.refl wr.heap.size wr).drew.size⟩
              have HN := Lib.hid (show inB is[m] = false → res = false from fun h => by rw [HJ4.out, all_no hlm2 h]; rfl)
              have HS := Lib.hid (show inB is[m] = true → ∀ j, (h : j < is.length) → j < m + 1 → inB is[j] = true from fun h j hj hjk => by
                by_cases e : j = m
                · subst e; exact h
                · exact HA.out j hj (by omega))
              clear HA rr
              generalize inB is[m] = zn at *
              generalize is[m] = y at *
              obtain ⟨yo, yt, ya, yn⟩ := y
              dsimp only at *
              have hlu0 := Nat.lt_of_succ_lt (Nat.lt_of_succ_lt hxu)
              have hBu : b7 < wr.heap.size := hB7
              cases zn
              · have HW := Lib.hid (HN.out rfl)
                replace CK := Lib.hid CK
                clear HN HS
                go_wp2_with fail
                go_region_held3 (fun u' => u'.cell? ⟨w.heap.size, 0, none⟩ = some (.slice (some ⟨b0, o0, none⟩) cs.length cap) ∧ u'.cell? ⟨w.heap.size + 1 + 1, 1, none⟩ = some (.slice (some ⟨b7, o7, none⟩) is.length c4) ∧ u'.cell? ⟨b7, o7 + m * 4, none⟩ = some (.int .i64 yo) ∧ u'.cell? ⟨b7, o7 + m * 4 + 1, none⟩ = some (.int .i64 yt) ∧ u'.cell? ⟨b7, o7 + m * 4 + 2, none⟩ = some (.slice A7 ya.length c7) ∧ u'.cell? ⟨b7, o7 + m * 4 + 3, none⟩ = some (.int .i64 yn)) (go_keep)
                  (first | (go_at_call 65; (with_reducible refine Calls.mono CK.out ?_); rintro ee w8 ⟨rfl, hb8⟩; have m0 := (hb8.cell (p := ⟨w.heap.size, 0, none⟩) hlu0).trans k0; have m1 := (hb8.cell (p := ⟨w.heap.size + 1 + 1, 1, none⟩) hxu).trans x1; have m2 := (hb8.cell (p := ⟨b7, o7 + m * 4, none⟩) hBu).trans g0; have m3 := (hb8.cell (p := ⟨b7, o7 + m * 4 + 1, none⟩) hBu).trans g1; have m4 := (hb8.cell (p := ⟨b7, o7 + m * 4 + 2, none⟩) hBu).trans g2; have m5 := (hb8.cell (p := ⟨b7, o7 + m * 4 + 3, none⟩) hBu).trans g3))
                all_goals
                  have hb9 := hbd.trans (hb8.mono hbs6)
                  go_wp2_with fail
                  go_ret
                  exact ⟨ret_bool' HW.out.symm, hb9⟩
              · have HW := Lib.hid (HS.out rfl)
                replace CK := Lib.hid CK
                clear HN HS
                go_wp2_with fail
                go_region_held3 (fun u' => u'.cell? ⟨w.heap.size, 0, none⟩ = some (.slice (some ⟨b0, o0, none⟩) cs.length cap) ∧ u'.cell? ⟨w.heap.size + 1 + 1, 1, none⟩ = some (.slice (some ⟨b7, o7, none⟩) is.length c4) ∧ u'.cell? ⟨b7, o7 + m * 4, none⟩ = some (.int .i64 yo) ∧ u'.cell? ⟨b7, o7 + m * 4 + 1, none⟩ = some (.int .i64 yt) ∧ u'.cell? ⟨b7, o7 + m * 4 + 2, none⟩ = some (.slice A7 ya.length c7) ∧ u'.cell? ⟨b7, o7 + m * 4 + 3, none⟩ = some (.int .i64 yn)) (go_keep)
                  (first | (go_at_call 65; (with_reducible refine Calls.mono CK.out ?_); rintro ee w8 ⟨rfl, hb8⟩; have m0 := (hb8.cell (p := ⟨w.heap.size, 0, none⟩) hlu0).trans k0; have m1 := (hb8.cell (p := ⟨w.heap.size + 1 + 1, 1, none⟩) hxu).trans x1; have m2 := (hb8.cell (p := ⟨b7, o7 + m * 4, none⟩) hBu).trans g0; have m3 := (hb8.cell (p := ⟨b7, o7 + m * 4 + 1, none⟩) hBu).trans g1; have m4 := (hb8.cell (p := ⟨b7, o7 + m * 4 + 2, none⟩) hBu).trans g2; have m5 := (hb8.cell (p := ⟨b7, o7 + m * 4 + 3, none⟩) hBu).trans g3))
                all_goals
                  have hb9 := hb5.drew.trans (hb8.mono hb5.size)
                  go_wp2_with fail
                  go_roundw
                  case rel => exact ⟨m + 1, by omega, by go_num, HW.out, hb9⟩
                  case measure => simp only [intOf]; omega
            · obtain rfl : m = is.length := by omega
              have HJ5 := Lib.hid (show res = ph.all phB by rw [HJ4.out, all_yes (fun i hi => HA.out i hi hi), Bool.true_and])
              have y0 := Yu.out 0 _ rfl
              have y1 := Yu.out 1 _ rfl
              have y2 := Yu.out 2 _ rfl
              clear HA HJ4 HR4 HI
              replace HP := fun W h => Lib.hid (HP.out W h)
              go_wp2_with fail
              (with_reducible refine Calls.mono (HP _ hb6).out ?_)
              rintro ee wp ⟨⟨vp, rfl, hown⟩, hbp⟩
              obtain ⟨A6, c6, rfl⟩ := own_len hown
              have hb7 := hb6.trans (hbp.mono hbs6)
              have hbs7 := hb7.size
              have Xp := Lib.hid (Xu.out.below hbp hxu)
              have Yp := Lib.hid (Yu.out.below hbp (Nat.lt_of_succ_lt hxu))
              have hxp := Nat.lt_of_lt_of_le hxu hbp.size
              have x0 := Xp.out 0 _ rfl
              clear hown HP y0 y1 y2 x1 k0 Xu Yu Ku
              go_wp2_with fail
              clear x0
              go_loopw [13] (fun i u => ∃ (m : Nat), m ≤ ph.length ∧ i = .int .i64 m ∧ (∀ j, (h : j < ph.length) → j < m → phB ph[j] = true) ∧ Below wp.heap.size wp u) (fun i _ => ph.length - (intOf i).toNat)
              case atStart => exact ⟨0, Nat.zero_le _, rfl, fun j _ hj => absurd hj (by omega), Below.refl _ _⟩
              case round =>
                obtain ⟨m, hm3, rfl, hall, hb8⟩ := hrel
                have HA := Lib.hid hall
                clear hall
                have hb9 := hb7.trans (hb8.mono hbs7)
                have hbs9 := hb9.size
                have Xv := Lib.hid (Xp.out.below hb8 hxp)
                have Yv := Lib.hid (Yp.out.below hb8 (Nat.lt_of_succ_lt hxp))
                have hxv := Nat.lt_of_lt_of_le hxp hb8.size
                have hyv := Nat.lt_of_succ_lt hxv
                have x0 := Xv.out 0 _ rfl
                have y0 := Yv.out 0 _ rfl
                have y1 := Yv.out 1 _ rfl
                have y2 := Yv.out 2 _ rfl
                have hbd9 := hb9.drew
                by_cases hlm3 : m < ph.length
                · obtain ⟨b8, o8, rfl, hB8, g0, A7, c7, g1, rr⟩ := (HR3.out.on hb9 hbs9).at_ hlm3
                  have CK := HG.out m hlm3 wr.drew hbd9 A7 c7 (rr.on (Below.refl wr.heap.size wr).drew (Below.refl wr.heap.size wr).drew.size)
                  have hal := HLP.out m hlm3
                  have HN := Lib.hid (show phB ph[m] = false → res = false from fun h => by rw [HJ5.out, all_no hlm3 h])
                  have HS := Lib.hid (show phB ph[m] = true → ∀ j, (h : j < ph.length) → j < m + 1 → phB ph[j] = true from fun h j hj hjk => by
                    by_cases e : j = m
                    · subst e; exact h
                    · exact HA.out j hj (by omega))
                  have HE := Lib.hid (HPH.out ph[m])
                  have LT := fun W => uInB_any ph[m].to 0 (g - 1) W
                  rw [← HRB.out] at LT
                  have hpl2 := HPL.out
                  clear HA rr
                  generalize phB ph[m] = zn at *
                  generalize rsB ph[m].args = zr at *
                  generalize rgB ph[m].to = zt at *
                  generalize ph[m] = y at *
                  obtain ⟨yt, ya⟩ := y
                  dsimp only at *
                  have hBv : b8 < wr.heap.size := hB8
                  by_cases hz : b = 0
                  · have HW := Lib.hid (HN.out (by rw [HE.out, decide_eq_false (fun h => h hz)]; rfl))
                    have j1 : ((b : Int) == 0) = true := beq_yes (by omega)
                    clear HN HS HE hz CK LT
                    go_wp2_with fail
                    go_quiet (fail)
                    all_goals
                      have hb11 := below_drewN hb9 nq
                      go_wp2_with fail
                      go_ret
                      exact ⟨ret_bool' HW.out.symm, hb11⟩
                  have j1 : ((b : Int) == 0) = false := beq_no (by omega)
                  rw [decide_eq_true (show b ≠ 0 from hz), Bool.true_and] at HE
                  clear hz
                  by_cases hl : ¬ ya.length = pl.length
                  · have HW := Lib.hid (HN.out (by rw [HE.out, decide_eq_false hl]; simp))
                    have j2 : ((ya.length : Int) == pl.length) = false := beq_no (by omega)
                    have j3 : ((ya.length : Int) != pl.length) = true := by rw [bne, j2]; rfl
                    clear HN HS HE hl CK LT
                    go_wp2_with fail
                    go_quiet (fail)
                    all_goals
                      have hb11 := below_drewN hb9 nq
                      go_wp2_with fail
                      go_ret
                      exact ⟨ret_bool' HW.out.symm, hb11⟩
                  replace hl : ya.length = pl.length := by omega
                  have j2 : ((ya.length : Int) == pl.length) = true := beq_yes (by omega)
                  have j3 : ((ya.length : Int) != pl.length) = false := by rw [bne, j2]; rfl
                  rw [decide_eq_true hl, Bool.true_and] at HE
                  clear hl
                  cases zr
                  · have HW := Lib.hid (HN.out (by rw [HE.out]; simp))
                    clear HN HS HE LT
                    replace CK := Lib.hid CK
                    try clear HR3
                    try clear HG
                    try clear HLP
                    try clear HPH
                    try clear HRB
                    try clear HPL
                    try clear HJ5
                    try clear hb
                    try clear hbs
                    try clear hb3
                    try clear hb4
                    try clear hbs4
                    try clear hb5
                    try clear hb6
                    try clear hbs6
                    try clear hb7
                    try clear hbs7
                    try clear X0
                    try clear Y0
                    try clear K0
                    try clear hx0
                    try clear Xr
                    try clear Yr
                    try clear K3
                    try clear hx3
                    try clear Xu
                    try clear Yu
                    try clear Ku
                    try clear hxu
                    try clear Xp
                    try clear Yp
                    try clear hxp
                    try clear Xv
                    try clear Yv
                    try clear hb8
                    try clear hwr2
                    try clear hnb
                    try clear hbb
                    try clear hcn
                    try clear hbl
                    try clear hg0
                    try clear hg1
                    try clear hn
                    try clear hln
                    try clear hk
                    try clear hB0
                    try clear hB1
                    try clear hal
                    try clear hpl2
                    go_wp2_with fail
                    refine wp_region_held_drew (S := fun u' => u'.cell? ⟨w.heap.size + 1 + 1, 0, none⟩ = some (.slice (some ⟨b8, o8, none⟩) ph.length c3) ∧ u'.cell? ⟨w.heap.size + 1, 0, none⟩ = some (.int .i64 p) ∧ u'.cell? ⟨w.heap.size + 1, 1, none⟩ = some (.int .i64 g) ∧ u'.cell? ⟨w.heap.size + 1, 2, none⟩ = some (.slice (some ⟨b1, o1, none⟩) bs.length c2) ∧ u'.cell? ⟨b8, o8 + m * 2, none⟩ = some (.int .i64 yt) ∧ u'.cell? ⟨b8, o8 + m * 2 + 1, none⟩ = some (.slice A7 ya.length c7)) (by kernel_rfl) ⟨x0, y0, y1, y2, g0, g1⟩ (fun hHeld => ?_)
                    refine wpAnyH_take (i := 0) (oi := { dst := some 98, op := Op.move (Operand.tmp 2), type := 3, pos := "l7_blocks.go:80", after := #[], guard := none }) (v := ?_) rfl (by kernel_rfl) (by kernel_rfl) (by kernel_rfl) (fun _ _ _ h => h) (Or.inl ⟨by rfl, ?hy⟩) (by assumption) ?_
                    case hy => (intro w' hSw; (try dsimp only at hSw); go_simp; (try with_reducible rfl))
                    try simp only [Act.put, List.setIfInBounds_toArray, List.set_cons_zero, List.set_cons_succ]
                    refine wpAnyH_take (i := 1) (oi := { dst := some 99, op := Op.binOp BinOp.eql 3 (Operand.tmp 98) (Operand.const (Value.int IntKind.i64 0)) 3, type := 4, pos := "l7_blocks.go:80", after := #[{ on := 0, ground := Ground.data }], guard := none }) (v := ?_) rfl (by kernel_rfl) (by kernel_rfl) (by kernel_rfl) (fun _ _ _ h => h) (Or.inl ⟨by rfl, ?hy⟩) (by assumption) ?_
                    case hy => (intro w' hSw; (try dsimp only at hSw); go_simp; (try with_reducible rfl))
                    try simp only [Act.put, List.setIfInBounds_toArray, List.set_cons_zero, List.set_cons_succ]
                    refine wpAnyH_take (i := 2) (oi := { dst := some 100, op := Op.move (Operand.tmp 99), type := 4, pos := "l7_blocks.go:80", after := #[{ on := 1, ground := Ground.data }], guard := none }) (v := ?_) rfl (by kernel_rfl) (by kernel_rfl) (by kernel_rfl) (fun _ _ _ h => h) (Or.inl ⟨by rfl, ?hy⟩) (by assumption) ?_
                    case hy => (intro w' hSw; (try dsimp only at hSw); go_simp; (try with_reducible rfl))
                    try simp only [Act.put, List.setIfInBounds_toArray, List.set_cons_zero, List.set_cons_succ]
                    refine wpAnyH_take (i := 3) (oi := { dst := some 101, op := Op.fieldAddr 56 (Operand.tmp 8) 0, type := 0, pos := "l7_blocks.go:80", after := #[{ on := 2, ground := Ground.guard }], guard := some (2, false) }) (v := ?_) rfl (by kernel_rfl) (by kernel_rfl) (by kernel_rfl) (fun _ _ _ h => h) (Or.inl ⟨by rfl, ?hy⟩) (by assumption) ?_
                    case hy => (intro w' hSw; (try dsimp only at hSw); go_simp; (try with_reducible rfl))
                    try simp only [Act.put, List.setIfInBounds_toArray, List.set_cons_zero, List.set_cons_succ]
                    refine wpAnyH_take (i := 4) (oi := { dst := some 102, op := Op.load 53 (Operand.tmp 101), type := 53, pos := "l7_blocks.go:80", after := #[{ on := 3, ground := Ground.data }, { on := 2, ground := Ground.guard }], guard := some (2, false) }) (v := ?_) rfl (by kernel_rfl) (by kernel_rfl) (by kernel_rfl) (fun _ _ _ h => h) (Or.inl ⟨by rfl, ?hy⟩) (by assumption) ?_
                    case hy => (intro w' hSw; (try dsimp only at hSw); go_simp; (try with_reducible rfl))
                    try simp only [Act.put, List.setIfInBounds_toArray, List.set_cons_zero, List.set_cons_succ]
                    refine wpAnyH_take (i := 5) (oi := { dst := some 103, op := Op.move (Operand.tmp 13), type := 3, pos := "l7_blocks.go:80", after := #[{ on := 2, ground := Ground.guard }], guard := some (2, false) }) (v := ?_) rfl (by kernel_rfl) (by kernel_rfl) (by kernel_rfl) (fun _ _ _ h => h) (Or.inl ⟨by rfl, ?hy⟩) (by assumption) ?_
                    case hy => (intro w' hSw; (try dsimp only at hSw); go_simp; (try with_reducible rfl))
                    try simp only [Act.put, List.setIfInBounds_toArray, List.set_cons_zero, List.set_cons_succ]
                    refine wpAnyH_take (i := 6) (oi := { dst := some 104, op := Op.indexAddr 53 (Operand.tmp 102) (Operand.tmp 103), type := 0, pos := "l7_blocks.go:80", after := #[{ on := 4, ground := Ground.data }, { on := 5, ground := Ground.data }, { on := 2, ground := Ground.guard }], guard := some (2, false) }) (v := ?_) rfl (by kernel_rfl) (by kernel_rfl) (by kernel_rfl) (fun _ _ _ h => h) (Or.inl ⟨by rfl, ?hy⟩) (by assumption) ?_
                    case hy => (intro w' hSw; (try dsimp only at hSw); go_simp; (try with_reducible rfl))
                    try simp only [Act.put, List.setIfInBounds_toArray, List.set_cons_zero, List.set_cons_succ]
                    refine wpAnyH_take (i := 7) (oi := { dst := some 105, op := Op.fieldAddr 58 (Operand.tmp 104) 1, type := 0, pos := "l7_blocks.go:80", after := #[{ on := 6, ground := Ground.data }, { on := 2, ground := Ground.guard }], guard := some (2, false) }) (v := ?_) rfl (by kernel_rfl) (by kernel_rfl) (by kernel_rfl) (fun _ _ _ h => h) (Or.inl ⟨by rfl, ?hy⟩) (by assumption) ?_
                    case hy => (intro w' hSw; (try dsimp only at hSw); go_simp; (try with_reducible rfl))
                    try simp only [Act.put, List.setIfInBounds_toArray, List.set_cons_zero, List.set_cons_succ]
                    refine wpAnyH_take (i := 8) (oi := { dst := some 106, op := Op.load 48 (Operand.tmp 105), type := 48, pos := "l7_blocks.go:80", after := #[{ on := 7, ground := Ground.data }, { on := 2, ground := Ground.guard }], guard := some (2, false) }) (v := ?_) rfl (by kernel_rfl) (by kernel_rfl) (by kernel_rfl) (fun _ _ _ h => h) (Or.inl ⟨by rfl, ?hy⟩) (by assumption) ?_
                    case hy => (intro w' hSw; (try dsimp only at hSw); go_simp; (try with_reducible rfl))
                    try simp only [Act.put, List.setIfInBounds_toArray, List.set_cons_zero, List.set_cons_succ]
                    refine wpAnyH_take (i := 9) (oi := { dst := some 107, op := Op.call { callee := Callee.builtin Builtin.len, args := #[Operand.tmp 106], argTypes := #[48] }, type := 3, pos := "l7_blocks.go:80", after := #[{ on := 8, ground := Ground.data }, { on := 2, ground := Ground.guard }], guard := some (2, false) }) (v := ?_) rfl (by kernel_rfl) (by kernel_rfl) (by kernel_rfl) (fun _ _ _ h => h) (Or.inl ⟨by rfl, ?hy⟩) (by assumption) ?_
                    case hy => (intro w' hSw; (try dsimp only at hSw); go_simp; (try with_reducible rfl))
                    try simp only [Act.put, List.setIfInBounds_toArray, List.set_cons_zero, List.set_cons_succ]
                    refine wpAnyH_take (i := 10) (oi := { dst := some 108, op := Op.move (Operand.tmp 12), type := 48, pos := "l7_blocks.go:80", after := #[{ on := 2, ground := Ground.guard }], guard := some (2, false) }) (v := ?_) rfl (by kernel_rfl) (by kernel_rfl) (by kernel_rfl) (fun _ _ _ h => h) (Or.inl ⟨by rfl, ?hy⟩) (by assumption) ?_
                    case hy => (intro w' hSw; (try dsimp only at hSw); go_simp; (try with_reducible rfl))
                    try simp only [Act.put, List.setIfInBounds_toArray, List.set_cons_zero, List.set_cons_succ]
                    refine wpAnyH_take (i := 11) (oi := { dst := some 109, op := Op.call { callee := Callee.builtin Builtin.len, args := #[Operand.tmp 108], argTypes := #[48] }, type := 3, pos := "l7_blocks.go:80", after := #[{ on := 10, ground := Ground.data }, { on := 2, ground := Ground.guard }], guard := some (2, false) }) (v := ?_) rfl (by kernel_rfl) (by kernel_rfl) (by kernel_rfl) (fun _ _ _ h => h) (Or.inl ⟨by rfl, ?hy⟩) (by assumption) ?_
                    case hy => (intro w' hSw; (try dsimp only at hSw); go_simp; (try with_reducible rfl))
                    try simp only [Act.put, List.setIfInBounds_toArray, List.set_cons_zero, List.set_cons_succ]
                    refine wpAnyH_take (i := 12) (oi := { dst := some 110, op := Op.binOp BinOp.neq 3 (Operand.tmp 107) (Operand.tmp 109) 3, type := 4, pos := "l7_blocks.go:80", after := #[{ on := 9, ground := Ground.data }, { on := 11, ground := Ground.data }, { on := 2, ground := Ground.guard }], guard := some (2, false) }) (v := ?_) rfl (by kernel_rfl) (by kernel_rfl) (by kernel_rfl) (fun _ _ _ h => h) (Or.inl ⟨by rfl, ?hy⟩) (by assumption) ?_
                    case hy => (intro w' hSw; (try dsimp only at hSw); go_simp; (try with_reducible rfl))
                    try simp only [Act.put, List.setIfInBounds_toArray, List.set_cons_zero, List.set_cons_succ]
                    refine wpAnyH_take (i := 13) (oi := { dst := some 111, op := Op.pick (Operand.tmp 100) (Operand.const (Value.bool true)) (Operand.tmp 110), type := 4, pos := "l7_blocks.go:80", after := #[{ on := 2, ground := Ground.data }, { on := 12, ground := Ground.data }], guard := none }) (v := ?_) rfl (by kernel_rfl) (by kernel_rfl) (by kernel_rfl) (fun _ _ _ h => h) (Or.inl ⟨by rfl, ?hy⟩) (by assumption) ?_
                    case hy => (intro w' hSw; (try dsimp only at hSw); go_simp; (try with_reducible rfl))
                    try simp only [Act.put, List.setIfInBounds_toArray, List.set_cons_zero, List.set_cons_succ]
                    refine wpAnyH_take (i := 14) (oi := { dst := some 112, op := Op.move (Operand.tmp 111), type := 4, pos := "l7_blocks.go:80", after := #[{ on := 13, ground := Ground.data }, { on := 2, ground := Ground.chain }], guard := none }) (v := ?_) rfl (by kernel_rfl) (by kernel_rfl) (by kernel_rfl) (fun _ _ _ h => h) (Or.inl ⟨by rfl, ?hy⟩) (by assumption) ?_
                    case hy => (intro w' hSw; (try dsimp only at hSw); go_simp; (try with_reducible rfl))
                    try simp only [Act.put, List.setIfInBounds_toArray, List.set_cons_zero, List.set_cons_succ]
                    refine wpAnyH_take (i := 15) (oi := { dst := some 113, op := Op.load 44 (Operand.tmp 7), type := 44, pos := "l7_blocks.go:80", after := #[{ on := 14, ground := Ground.guard }], guard := some (14, false) }) (v := ?_) rfl (by kernel_rfl) (by kernel_rfl) (by kernel_rfl) (fun _ _ _ h => h) (Or.inl ⟨by rfl, ?hy⟩) (by assumption) ?_
                    case hy => (intro w' hSw; (try dsimp only at hSw); go_simp; (try with_reducible rfl))
                    try simp only [Act.put, List.setIfInBounds_toArray, List.set_cons_zero, List.set_cons_succ]
                    refine wpAnyH_take (i := 16) (oi := { dst := some 114, op := Op.fieldAddr 56 (Operand.tmp 8) 0, type := 0, pos := "l7_blocks.go:80", after := #[{ on := 14, ground := Ground.guard }], guard := some (14, false) }) (v := ?_) rfl (by kernel_rfl) (by kernel_rfl) (by kernel_rfl) (fun _ _ _ h => h) (Or.inl ⟨by rfl, ?hy⟩) (by assumption) ?_
                    case hy => (intro w' hSw; (try dsimp only at hSw); go_simp; (try with_reducible rfl))
                    try simp only [Act.put, List.setIfInBounds_toArray, List.set_cons_zero, List.set_cons_succ]
                    refine wpAnyH_take (i := 17) (oi := { dst := some 115, op := Op.load 53 (Operand.tmp 114), type := 53, pos := "l7_blocks.go:80", after := #[{ on := 16, ground := Ground.data }, { on := 14, ground := Ground.guard }], guard := some (14, false) }) (v := ?_) rfl (by kernel_rfl) (by kernel_rfl) (by kernel_rfl) (fun _ _ _ h => h) (Or.inl ⟨by rfl, ?hy⟩) (by assumption) ?_
                    case hy => (intro w' hSw; (try dsimp only at hSw); go_simp; (try with_reducible rfl))
                    try simp only [Act.put, List.setIfInBounds_toArray, List.set_cons_zero, List.set_cons_succ]
                    refine wpAnyH_take (i := 18) (oi := { dst := some 116, op := Op.move (Operand.tmp 13), type := 3, pos := "l7_blocks.go:80", after := #[{ on := 14, ground := Ground.guard }], guard := some (14, false) }) (v := ?_) rfl (by kernel_rfl) (by kernel_rfl) (by kernel_rfl) (fun _ _ _ h => h) (Or.inl ⟨by rfl, ?hy⟩) (by assumption) ?_
                    case hy => (intro w' hSw; (try dsimp only at hSw); go_simp; (try with_reducible rfl))
                    try simp only [Act.put, List.setIfInBounds_toArray, List.set_cons_zero, List.set_cons_succ]
                    refine wpAnyH_take (i := 19) (oi := { dst := some 117, op := Op.indexAddr 53 (Operand.tmp 115) (Operand.tmp 116), type := 0, pos := "l7_blocks.go:80", after := #[{ on := 17, ground := Ground.data }, { on := 18, ground := Ground.data }, { on := 14, ground := Ground.guard }], guard := some (14, false) }) (v := ?_) rfl (by kernel_rfl) (by kernel_rfl) (by kernel_rfl) (fun _ _ _ h => h) (Or.inl ⟨by rfl, ?hy⟩) (by assumption) ?_
                    case hy => (intro w' hSw; (try dsimp only at hSw); go_simp; (try with_reducible rfl))
                    try simp only [Act.put, List.setIfInBounds_toArray, List.set_cons_zero, List.set_cons_succ]
                    refine wpAnyH_take (i := 20) (oi := { dst := some 118, op := Op.fieldAddr 58 (Operand.tmp 117) 1, type := 0, pos := "l7_blocks.go:80", after := #[{ on := 19, ground := Ground.data }, { on := 14, ground := Ground.guard }], guard := some (14, false) }) (v := ?_) rfl (by kernel_rfl) (by kernel_rfl) (by kernel_rfl) (fun _ _ _ h => h) (Or.inl ⟨by rfl, ?hy⟩) (by assumption) ?_
                    case hy => (intro w' hSw; (try dsimp only at hSw); go_simp; (try with_reducible rfl))
                    try simp only [Act.put, List.setIfInBounds_toArray, List.set_cons_zero, List.set_cons_succ]
                    refine wpAnyH_take (i := 21) (oi := { dst := some 119, op := Op.load 48 (Operand.tmp 118), type := 48, pos := "l7_blocks.go:80", after := #[{ on := 20, ground := Ground.data }, { on := 14, ground := Ground.guard }], guard := some (14, false) }) (v := ?_) rfl (by kernel_rfl) (by kernel_rfl) (by kernel_rfl) (fun _ _ _ h => h) (Or.inl ⟨by rfl, ?hy⟩) (by assumption) ?_
                    case hy => (intro w' hSw; (try dsimp only at hSw); go_simp; (try with_reducible rfl))
                    try simp only [Act.put, List.setIfInBounds_toArray, List.set_cons_zero, List.set_cons_succ]
                    refine wpAnyH_ready (rs := [22]) (by kernel_rfl) (by simp) ?_
                    refine AllReadyH.cons (o := { dst := some 120, op := Op.call { callee := Callee.value (Operand.func 67), args := #[Operand.tmp 113, Operand.tmp 119], argTypes := #[44, 48] }, type := 4, pos := "l7_blocks.go:80", after := #[{ on := 15, ground := Ground.data }, { on := 21, ground := Ground.data }, { on := 14, ground := Ground.chain }, { on := 14, ground := Ground.guard }], guard := some (14, false) }) rfl (fun K hK => ?_) AllReadyH.nil
                    go_simp
                    (with_reducible refine Calls.mono CK.out ?_)
                    rintro ee wx ⟨rfl, hb10⟩
                    have m0 := (hb10.cell (p := ⟨w.heap.size + 1 + 1, 0, none⟩) hxv).trans x0
                    have m1 := (hb10.cell (p := ⟨w.heap.size + 1, 0, none⟩) hyv).trans y0
                    have m2 := (hb10.cell (p := ⟨w.heap.size + 1, 1, none⟩) hyv).trans y1
                    have m3 := (hb10.cell (p := ⟨w.heap.size + 1, 2, none⟩) hyv).trans y2
                    have m4 := (hb10.cell (p := ⟨b8, o8 + m * 2, none⟩) hBv).trans g0
                    have m5 := (hb10.cell (p := ⟨b8, o8 + m * 2 + 1, none⟩) hBv).trans g1
                    refine hK.out _ _ ⟨m0, m1, m2, m3, m4, m5⟩ (fun hHeld2 => ?_)
                    clear hK K
                    try simp only [Act.put, List.setIfInBounds_toArray, List.set_cons_zero, List.set_cons_succ]
                    refine wpAnyH_take (i := 23) (oi := { dst := some 121, op := Op.unOp UnOp.not 4 (Operand.tmp 120), type := 4, pos := "l7_blocks.go:80", after := #[{ on := 22, ground := Ground.data }, { on := 14, ground := Ground.guard }], guard := some (14, false) }) (v := ?_) rfl (by kernel_rfl) (by kernel_rfl) (by kernel_rfl) (fun _ _ _ h => h) (Or.inl ⟨by rfl, ?hy⟩) (by assumption) ?_
                    case hy => (intro w' hSw; (try dsimp only at hSw); go_simp; (try with_reducible rfl))
                    try simp only [Act.put, List.setIfInBounds_toArray, List.set_cons_zero, List.set_cons_succ]
                    refine wpAnyH_take (i := 24) (oi := { dst := some 122, op := Op.pick (Operand.tmp 112) (Operand.const (Value.bool true)) (Operand.tmp 121), type := 4, pos := "l7_blocks.go:80", after := #[{ on := 14, ground := Ground.data }, { on := 23, ground := Ground.data }], guard := none }) (v := ?_) rfl (by kernel_rfl) (by kernel_rfl) (by kernel_rfl) (fun _ _ _ h => h) (Or.inl ⟨by rfl, ?hy⟩) (by assumption) ?_
                    case hy => (intro w' hSw; (try dsimp only at hSw); go_simp; (try with_reducible rfl))
                    try simp only [Act.put, List.setIfInBounds_toArray, List.set_cons_zero, List.set_cons_succ]
                    refine wpAnyH_take (i := 25) (oi := { dst := some 123, op := Op.move (Operand.tmp 122), type := 4, pos := "l7_blocks.go:80", after := #[{ on := 24, ground := Ground.data }, { on := 22, ground := Ground.chain }], guard := none }) (v := ?_) rfl (by kernel_rfl) (by kernel_rfl) (by kernel_rfl) (fun _ _ _ h => h) (Or.inl ⟨by rfl, ?hy⟩) (by assumption) ?_
                    case hy => (intro w' hSw; (try dsimp only at hSw); go_simp; (try with_reducible rfl))
                    try simp only [Act.put, List.setIfInBounds_toArray, List.set_cons_zero, List.set_cons_succ]
                    refine wpAnyH_take (i := 26) (oi := { dst := some 124, op := Op.fieldAddr 56 (Operand.tmp 8) 0, type := 0, pos := "l7_blocks.go:80", after := #[{ on := 25, ground := Ground.guard }], guard := some (25, false) }) (v := undef) rfl (by kernel_rfl) (by kernel_rfl) (by kernel_rfl) (fun _ _ _ h => h) (Or.inr ⟨by rfl, rfl⟩) (by assumption) ?_
                    try simp only [Act.put, List.setIfInBounds_toArray, List.set_cons_zero, List.set_cons_succ]
                    refine wpAnyH_take (i := 27) (oi := { dst := some 125, op := Op.load 53 (Operand.tmp 124), type := 53, pos := "l7_blocks.go:80", after := #[{ on := 26, ground := Ground.data }, { on := 25, ground := Ground.guard }], guard := some (25, false) }) (v := undef) rfl (by kernel_rfl) (by kernel_rfl) (by kernel_rfl) (fun _ _ _ h => h) (Or.inr ⟨by rfl, rfl⟩) (by assumption) ?_
                    try simp only [Act.put, List.setIfInBounds_toArray, List.set_cons_zero, List.set_cons_succ]
                    refine wpAnyH_take (i := 28) (oi := { dst := some 126, op := Op.move (Operand.tmp 13), type := 3, pos := "l7_blocks.go:80", after := #[{ on := 25, ground := Ground.guard }], guard := some (25, false) }) (v := undef) rfl (by kernel_rfl) (by kernel_rfl) (by kernel_rfl) (fun _ _ _ h => h) (Or.inr ⟨by rfl, rfl⟩) (by assumption) ?_
                    try simp only [Act.put, List.setIfInBounds_toArray, List.set_cons_zero, List.set_cons_succ]
                    refine wpAnyH_take (i := 29) (oi := { dst := some 127, op := Op.indexAddr 53 (Operand.tmp 125) (Operand.tmp 126), type := 0, pos := "l7_blocks.go:80", after := #[{ on := 27, ground := Ground.data }, { on := 28, ground := Ground.data }, { on := 25, ground := Ground.guard }], guard := some (25, false) }) (v := undef) rfl (by kernel_rfl) (by kernel_rfl) (by kernel_rfl) (fun _ _ _ h => h) (Or.inr ⟨by rfl, rfl⟩) (by assumption) ?_
                    try simp only [Act.put, List.setIfInBounds_toArray, List.set_cons_zero, List.set_cons_succ]
                    refine wpAnyH_take (i := 30) (oi := { dst := some 128, op := Op.fieldAddr 58 (Operand.tmp 127) 0, type := 0, pos := "l7_blocks.go:80", after := #[{ on := 29, ground := Ground.data }, { on := 25, ground := Ground.guard }], guard := some (25, false) }) (v := undef) rfl (by kernel_rfl) (by kernel_rfl) (by kernel_rfl) (fun _ _ _ h => h) (Or.inr ⟨by rfl, rfl⟩) (by assumption) ?_
                    try simp only [Act.put, List.setIfInBounds_toArray, List.set_cons_zero, List.set_cons_succ]
                    refine wpAnyH_take (i := 31) (oi := { dst := some 129, op := Op.load 3 (Operand.tmp 128), type := 3, pos := "l7_blocks.go:80", after := #[{ on := 30, ground := Ground.data }, { on := 25, ground := Ground.guard }], guard := some (25, false) }) (v := undef) rfl (by kernel_rfl) (by kernel_rfl) (by kernel_rfl) (fun _ _ _ h => h) (Or.inr ⟨by rfl, rfl⟩) (by assumption) ?_
                    try simp only [Act.put, List.setIfInBounds_toArray, List.set_cons_zero, List.set_cons_succ]
                    refine wpAnyH_take (i := 32) (oi := { dst := some 130, op := Op.fieldAddr 44 (Operand.tmp 7) 1, type := 0, pos := "l7_blocks.go:80", after := #[{ on := 25, ground := Ground.guard }], guard := some (25, false) }) (v := undef) rfl (by kernel_rfl) (by kernel_rfl) (by kernel_rfl) (fun _ _ _ h => h) (Or.inr ⟨by rfl, rfl⟩) (by assumption) ?_
                    try simp only [Act.put, List.setIfInBounds_toArray, List.set_cons_zero, List.set_cons_succ]
                    refine wpAnyH_take (i := 33) (oi := { dst := some 131, op := Op.load 3 (Operand.tmp 130), type := 3, pos := "l7_blocks.go:80", after := #[{ on := 32, ground := Ground.data }, { on := 25, ground := Ground.guard }], guard := some (25, false) }) (v := undef) rfl (by kernel_rfl) (by kernel_rfl) (by kernel_rfl) (fun _ _ _ h => h) (Or.inr ⟨by rfl, rfl⟩) (by assumption) ?_
                    try simp only [Act.put, List.setIfInBounds_toArray, List.set_cons_zero, List.set_cons_succ]
                    refine wpAnyH_take (i := 34) (oi := { dst := some 132, op := Op.binOp BinOp.sub 3 (Operand.tmp 131) (Operand.const (Value.int IntKind.i64 1)) 3, type := 3, pos := "l7_blocks.go:80", after := #[{ on := 33, ground := Ground.data }, { on := 25, ground := Ground.guard }], guard := some (25, false) }) (v := undef) rfl (by kernel_rfl) (by kernel_rfl) (by kernel_rfl) (fun _ _ _ h => h) (Or.inr ⟨by rfl, rfl⟩) (by assumption) ?_
                    try simp only [Act.put, List.setIfInBounds_toArray, List.set_cons_zero, List.set_cons_succ]
                    refine wpAnyH_take (i := 35) (oi := { dst := some 133, op := Op.call { callee := Callee.value (Operand.func 42), args := #[Operand.tmp 129, Operand.const (Value.int IntKind.i64 0), Operand.tmp 132], argTypes := #[3, 3, 3] }, type := 4, pos := "l7_blocks.go:80", after := #[{ on := 31, ground := Ground.data }, { on := 34, ground := Ground.data }, { on := 25, ground := Ground.chain }, { on := 25, ground := Ground.guard }], guard := some (25, false) }) (v := undef) rfl (by kernel_rfl) (by kernel_rfl) (by kernel_rfl) (fun _ _ _ h => h) (Or.inr ⟨by rfl, rfl⟩) (by assumption) ?_
                    try simp only [Act.put, List.setIfInBounds_toArray, List.set_cons_zero, List.set_cons_succ]
                    refine wpAnyH_take (i := 36) (oi := { dst := some 134, op := Op.unOp UnOp.not 4 (Operand.tmp 133), type := 4, pos := "l7_blocks.go:80", after := #[{ on := 35, ground := Ground.data }, { on := 25, ground := Ground.guard }], guard := some (25, false) }) (v := undef) rfl (by kernel_rfl) (by kernel_rfl) (by kernel_rfl) (fun _ _ _ h => h) (Or.inr ⟨by rfl, rfl⟩) (by assumption) ?_
                    try simp only [Act.put, List.setIfInBounds_toArray, List.set_cons_zero, List.set_cons_succ]
                    refine wpAnyH_take (i := 37) (oi := { dst := some 135, op := Op.pick (Operand.tmp 123) (Operand.const (Value.bool true)) (Operand.tmp 134), type := 4, pos := "l7_blocks.go:80", after := #[{ on := 25, ground := Ground.data }, { on := 36, ground := Ground.data }], guard := none }) (v := ?_) rfl (by kernel_rfl) (by kernel_rfl) (by kernel_rfl) (fun _ _ _ h => h) (Or.inl ⟨by rfl, ?hy⟩) (by assumption) ?_
                    case hy => (intro w' hSw; (try dsimp only at hSw); go_simp; (try with_reducible rfl))
                    try simp only [Act.put, List.setIfInBounds_toArray, List.set_cons_zero, List.set_cons_succ]
                    refine wpAnyH_done (by kernel_rfl) ?_ _
                    have hb11 := hbd9.trans (hb10.mono hbs9)
                    go_wp2_with fail
                    go_ret
                    exact ⟨ret_bool' HW.out.symm, hb11⟩
                  cases zt
                  · have HW := Lib.hid (HN.out (by rw [HE.out]; simp))
                    clear HN HS HE
                    replace CK := Lib.hid CK
                    replace LT := fun W => Lib.hid (LT W)
                    go_wp2_with fail
                    go_region_held3 (fun u' => u'.cell? ⟨w.heap.size + 1 + 1, 0, none⟩ = some (.slice (some ⟨b8, o8, none⟩) ph.length c3) ∧ u'.cell? ⟨w.heap.size + 1, 0, none⟩ = some (.int .i64 p) ∧ u'.cell? ⟨w.heap.size + 1, 1, none⟩ = some (.int .i64 g) ∧ u'.cell? ⟨w.heap.size + 1, 2, none⟩ = some (.slice (some ⟨b1, o1, none⟩) bs.length c2) ∧ u'.cell? ⟨b8, o8 + m * 2, none⟩ = some (.int .i64 yt) ∧ u'.cell? ⟨b8, o8 + m * 2 + 1, none⟩ = some (.slice A7 ya.length c7)) (go_keep)
                      (first
                        | (go_at_call 67; (with_reducible refine Calls.mono CK.out ?_); rintro ee wx ⟨rfl, hb10⟩; have m0 := (hb10.cell (p := ⟨w.heap.size + 1 + 1, 0, none⟩) hxv).trans x0; have m1 := (hb10.cell (p := ⟨w.heap.size + 1, 0, none⟩) hyv).trans y0; have m2 := (hb10.cell (p := ⟨w.heap.size + 1, 1, none⟩) hyv).trans y1; have m3 := (hb10.cell (p := ⟨w.heap.size + 1, 2, none⟩) hyv).trans y2; have m4 := (hb10.cell (p := ⟨b8, o8 + m * 2, none⟩) hBv).trans g0; have m5 := (hb10.cell (p := ⟨b8, o8 + m * 2 + 1, none⟩) hBv).trans g1)
                        | (go_at_call 42; (with_reducible refine Calls.mono (LT _).out ?_); rintro ee wy ⟨rfl, hb12⟩; have n0 := (hb12.cell (p := ⟨w.heap.size + 1 + 1, 0, none⟩) (Nat.lt_of_lt_of_le hxv hb10.size)).trans m0; have n1 := (hb12.cell (p := ⟨w.heap.size + 1, 0, none⟩) (Nat.lt_of_lt_of_le hyv hb10.size)).trans m1; have n2 := (hb12.cell (p := ⟨w.heap.size + 1, 1, none⟩) (Nat.lt_of_lt_of_le hyv hb10.size)).trans m2; have n3 := (hb12.cell (p := ⟨w.heap.size + 1, 2, none⟩) (Nat.lt_of_lt_of_le hyv hb10.size)).trans m3; have n4 := (hb12.cell (p := ⟨b8, o8 + m * 2, none⟩) (Nat.lt_of_lt_of_le hBv hb10.size)).trans m4; have n5 := (hb12.cell (p := ⟨b8, o8 + m * 2 + 1, none⟩) (Nat.lt_of_lt_of_le hBv hb10.size)).trans m5))
                    all_goals
                      have hb11 := hbd9.trans (hb10.mono hbs9)
                      have hb13 := hb11.trans (hb12.mono hb11.size)
                      go_wp2_with fail
                      go_ret
                      exact ⟨ret_bool' HW.out.symm, hb13⟩
                  · have HW := Lib.hid (HS.out (by rw [HE.out]; rfl))
                    clear HN HS HE
                    replace CK := Lib.hid CK
                    replace LT := fun W => Lib.hid (LT W)
                    go_wp2_with fail
                    go_region_held3 (fun u' => u'.cell? ⟨w.heap.size + 1 + 1, 0, none⟩ = some (.slice (some ⟨b8, o8, none⟩) ph.length c3) ∧ u'.cell? ⟨w.heap.size + 1, 0, none⟩ = some (.int .i64 p) ∧ u'.cell? ⟨w.heap.size + 1, 1, none⟩ = some (.int .i64 g) ∧ u'.cell? ⟨w.heap.size + 1, 2, none⟩ = some (.slice (some ⟨b1, o1, none⟩) bs.length c2) ∧ u'.cell? ⟨b8, o8 + m * 2, none⟩ = some (.int .i64 yt) ∧ u'.cell? ⟨b8, o8 + m * 2 + 1, none⟩ = some (.slice A7 ya.length c7)) (go_keep)
                      (first
                        | (go_at_call 67; (with_reducible refine Calls.mono CK.out ?_); rintro ee wx ⟨rfl, hb10⟩; have m0 := (hb10.cell (p := ⟨w.heap.size + 1 + 1, 0, none⟩) hxv).trans x0; have m1 := (hb10.cell (p := ⟨w.heap.size + 1, 0, none⟩) hyv).trans y0; have m2 := (hb10.cell (p := ⟨w.heap.size + 1, 1, none⟩) hyv).trans y1; have m3 := (hb10.cell (p := ⟨w.heap.size + 1, 2, none⟩) hyv).trans y2; have m4 := (hb10.cell (p := ⟨b8, o8 + m * 2, none⟩) hBv).trans g0; have m5 := (hb10.cell (p := ⟨b8, o8 + m * 2 + 1, none⟩) hBv).trans g1)
                        | (go_at_call 42; (with_reducible refine Calls.mono (LT _).out ?_); rintro ee wy ⟨rfl, hb12⟩; have n0 := (hb12.cell (p := ⟨w.heap.size + 1 + 1, 0, none⟩) (Nat.lt_of_lt_of_le hxv hb10.size)).trans m0; have n1 := (hb12.cell (p := ⟨w.heap.size + 1, 0, none⟩) (Nat.lt_of_lt_of_le hyv hb10.size)).trans m1; have n2 := (hb12.cell (p := ⟨w.heap.size + 1, 1, none⟩) (Nat.lt_of_lt_of_le hyv hb10.size)).trans m2; have n3 := (hb12.cell (p := ⟨w.heap.size + 1, 2, none⟩) (Nat.lt_of_lt_of_le hyv hb10.size)).trans m3; have n4 := (hb12.cell (p := ⟨b8, o8 + m * 2, none⟩) (Nat.lt_of_lt_of_le hBv hb10.size)).trans m4; have n5 := (hb12.cell (p := ⟨b8, o8 + m * 2 + 1, none⟩) (Nat.lt_of_lt_of_le hBv hb10.size)).trans m5))
                    all_goals
                      have hb11 := hb8.drew.trans (hb10.mono hb8.size)
                      have hb13 := hb11.trans (hb12.mono hb11.size)
                      go_wp2_with fail
                      go_roundw
                      case rel => exact ⟨m + 1, by omega, by go_num, HW.out, hb13⟩
                      case measure => simp only [intOf]; omega
                · obtain rfl : m = ph.length := by omega
                  have HW := Lib.hid (show res = true by rw [HJ5.out, all_yes (fun i hi => HA.out i hi hi)])
                  clear HA
                  go_wp2_with fail
                  go_ret
                  exact ⟨ret_bool' HW.out.symm, hb9⟩

  · have j9 : ((nx.length : Int) != 2) = true := by rw [bne, beq_no hl]; rfl
    have HW := Lib.hid (show res = false by rw [HV.out, HJ.out, decide_eq_false hl]; simp)
    clear HJ HV HO hl HI HP HG HPL HR3 HR4 HR5 HPH HRB HNB HZ LON
    go_enter Tryd.func43, Tryd.ntmps43
    go_wp2_with fail
    go_ret
    exact ⟨ret_bool' HW.out.symm, hb⟩
end Go.Proofs.YtomhomnibikceaaDoor
