/-
  What the model asks of a block.
-/
import Derived.Test.YtomhomnibikceaaDoorNR
import Derived.Test.YtomhomnibikceaaDoorNN
import Derived.Test.YtomhomnibikceaaDoorNT1
import Derived.Test.YtomhomnibikceaaDoorNT2
import Derived.Test.YtomhomnibikceaaDoorNT3
namespace Go.Proofs.YtomhomnibikceaaDoor
open Go.RowKit
set_option maxRecDepth 100000

set_option maxHeartbeats 16000000 in
theorem l7Block_any (cs : List Cd) (A : Option Addr) (cap k b : Nat) (hk : k < cs.length) (hbb : b < cs[k].blocks.length) (w : World) (hR : CdS w (Lt w.heap.size) cs A) (hn : bulkR bulkCd cs ≤ 1048576) (hg0 : 0 ≤ cs[k].regs) (hg1 : cs[k].regs ≤ 300) :
    Calls Tryd.prog 43 #[.agg #[.slice A cs.length cap], .int .i64 k, .int .i64 b] w (BoolB (blockB cs k cs[k] b cs[k].blocks[b]) w) := by
  by_cases hd : 1 ≤ cs[k].blocks[b].jump ∧ cs[k].blocks[b].jump ≤ 3
  · have h3 : cs[k].blocks[b].jump = 1 ∨ cs[k].blocks[b].jump = 2 ∨ cs[k].blocks[b].jump = 3 := by omega
    rcases h3 with h | h | h
    · exact l7Block_j1 cs A cap k b hk hbb w hR hn hg0 hg1 h
    · exact l7Block_j2 cs A cap k b hk hbb w hR hn hg0 hg1 h
    · exact l7Block_j3 cs A cap k b hk hbb w hR hn hg0 hg1 h
  have hln : cs.length ≤ 1048576 := by have := length_le_bulkR bulkCd cs; omega
  have hcn : bulkCd cs[k] ≤ 1048576 := by have := bulkR_mem (f := bulkCd) (List.getElem_mem hk); omega
  have hbl : cs[k].blocks.length ≤ 1048576 := by have := length_le_bulkR bulkBk cs[k].blocks; unfold bulkCd at hcn; omega
  have hbk := bulk_block hbb hcn
  obtain ⟨hpb, hib, hnb⟩ := bulk_parts hbk
  obtain ⟨b0, o0, hA, hB0, d0, d1, A2, c2, d2, r2⟩ := hR.at_ hk
  obtain ⟨b1, o1, hA2, hB1, ⟨A3, c3, f0, r3⟩, ⟨A4, c4, f1, r4⟩, f2, f3, A5, c5, f4, r5⟩ := r2.at_ hbb
  have HI : Hid (∀ (j : Nat) (hj : j < cs[k].blocks[b].ins.length) (W : World) (_ : Below w.heap.size w W) (v : Value), IkV W (Lt W.heap.size) cs[k].blocks[b].ins[j] v → Calls Tryd.prog 65 #[.agg #[.slice A cs.length cap], .int .i64 k, v] W (BoolB (insB cs k cs[k] cs[k].blocks[b].ins[j]) W)) := Lib.hid fun j hj W h v hv =>
    l7Ins_any cs A cap k hk _ v W hv (hR.on h h.size) (by have := bulkR_mem (f := bulkIk) (List.getElem_mem hj); omega) hln hg0 hg1
  have HP : Hid (∀ (W : World) (_ : Below w.heap.size w W), Calls Tryd.prog 66 #[cdv cs[k] A2 c2, .int .i64 b] W (PRet (predsL cs[k] b) W)) := Lib.hid fun W h => l7Preds_any cs[k] A2 c2 b W (r2.on h h.size) hcn
  have HG : Hid (∀ (j : Nat) (hj : j < cs[k].blocks[b].phis.length) (W : World) (_ : Below w.heap.size w W) (Aj : Option Addr) (cj : Nat), NumS W (Lt W.heap.size) cs[k].blocks[b].phis[j].args Aj → Calls Tryd.prog 67 #[cdv cs[k] A2 c2, .slice Aj cs[k].blocks[b].phis[j].args.length cj] W (BoolB (regsB cs[k] cs[k].blocks[b].phis[j].args) W)) := Lib.hid fun j hj W h Aj cj hr =>
    l7Regs_any cs[k] A2 c2 _ (by
      have := bulkR_mem (f := bulkPh) (List.getElem_mem hj)
      unfold bulkPh at this hpb; omega) Aj cj W hr hg0 hg1
  have HPL := Lib.hid (show (predsL cs[k] b).length ≤ 1048576 from by have := predsTo_len cs[k].blocks b cs[k].blocks.length; unfold predsL; omega)
  have HR3 := Lib.hid r3
  have HR4 := Lib.hid r4
  have HR5 := Lib.hid r5
  have HLP := Lib.hid (show ∀ j, (h : j < cs[k].blocks[b].phis.length) → cs[k].blocks[b].phis[j].args.length ≤ 1048576 from fun j hj => by
    have := bulkR_mem (f := bulkPh) (List.getElem_mem hj)
    unfold bulkPh at this hpb; omega)
  have hpl : cs[k].blocks[b].phis.length ≤ 1048576 := by have := length_le_bulkR bulkPh cs[k].blocks[b].phis; omega
  have hil : cs[k].blocks[b].ins.length ≤ 1048576 := by have := length_le_bulkR bulkIk cs[k].blocks[b].ins; omega
  clear hR r2 r3 r4 r5 hbk hpb hib
  have HV := Lib.hid (show blockB cs k cs[k] b cs[k].blocks[b] = (jumpB cs[k] cs[k].blocks[b] && (cs[k].blocks[b].ins.all (insB cs k cs[k]) && cs[k].blocks[b].phis.all (phiB cs[k] b))) from rfl)
  generalize blockB cs k cs[k] b cs[k].blocks[b] = res at *
  have HJ := Lib.hid (show jumpB cs[k] cs[k].blocks[b] = (decide (1 ≤ cs[k].blocks[b].jump ∧ cs[k].blocks[b].jump ≤ 3) && (onB cs[k] cs[k].blocks[b] && (decide ((cs[k].blocks[b].next.length : Int) = jNext cs[k].blocks[b].jump) && cs[k].blocks[b].next.all (nextB cs[k])))) from rfl)
  generalize jumpB cs[k] cs[k].blocks[b] = jb at *
  have HO := Lib.hid (show onB cs[k] cs[k].blocks[b] = if jUses cs[k].blocks[b].jump then regB cs[k] cs[k].blocks[b].on else decide (cs[k].blocks[b].on = 0) from rfl)
  generalize onB cs[k] cs[k].blocks[b] = ob at *
  have HPH := Lib.hid (show ∀ p, phiB cs[k] b p = (decide (b ≠ 0) && (regB cs[k] p.to && (decide (p.args.length = (predsL cs[k] b).length) && regsB cs[k] p.args))) from fun _ => rfl)
  have HRB := Lib.hid (show ∀ r, regB cs[k] r = decide (0 ≤ r ∧ r ≤ cs[k].regs - 1) from fun r => regB_in cs[k] r)
  have HNB := Lib.hid (show ∀ r, nextB cs[k] r = decide (1 ≤ r ∧ r ≤ (cs[k].blocks.length : Int) - 1) from fun r => by
    unfold nextB
    by_cases h : 1 ≤ r ∧ r < cs[k].blocks.length
    · rw [decide_eq_true h, decide_eq_true (by omega)]
    · rw [decide_eq_false h, decide_eq_false (by omega)])
  generalize cs[k].blocks[b] = x at *
  unfold cdv at HP HG
  generalize predsL cs[k] b = pl at *
  generalize phiB cs[k] b = phB at *
  generalize insB cs k cs[k] = inB at *
  generalize regB cs[k] = rgB at *
  generalize regsB cs[k] = rsB at *
  generalize nextB cs[k] = nxB at *
  generalize cs[k] = c at *
  obtain ⟨p, g, bs⟩ := c
  obtain ⟨ph, is, jp, on, nx⟩ := x
  dsimp only at *
  subst hA2
  subst hA
  have sz1 : (w.alloc (.cells #[.slice (some ⟨b0, o0, none⟩) cs.length cap] 30)).heap.size = w.heap.size + 1 := World.size_alloc _ _
  have sz2 : ((w.alloc (.cells #[.slice (some ⟨b0, o0, none⟩) cs.length cap] 30)).alloc (.cells #[.int .i64 p, .int .i64 g, .slice (some ⟨b1, o1, none⟩) bs.length c2] 44)).heap.size = w.heap.size + 1 + 1 := by rw [World.size_alloc, sz1]
  have hb2 := two_boxes w (.cells #[.slice (some ⟨b0, o0, none⟩) cs.length cap] 30) (.cells #[.int .i64 p, .int .i64 g, .slice (some ⟨b1, o1, none⟩) bs.length c2] 44)
  have hb : Below w.heap.size w (((w.alloc (.cells #[.slice (some ⟨b0, o0, none⟩) cs.length cap] 30)).alloc (.cells #[.int .i64 p, .int .i64 g, .slice (some ⟨b1, o1, none⟩) bs.length c2] 44)).alloc (.cells #[.slice A3 ph.length c3, .slice A4 is.length c4, .int .i64 jp, .int .i64 on, .slice A5 nx.length c5] 56)) := hb2.alloc hb2.size _
  have K0 := Lib.hid (((BoxV.new w [.slice (some ⟨b0, o0, none⟩) cs.length cap] 30).below ((Below.refl _ _).alloc (Nat.le_refl _) (.cells #[.int .i64 p, .int .i64 g, .slice (some ⟨b1, o1, none⟩) bs.length c2] 44)) (by rw [World.size_alloc]; omega)).below ((Below.refl _ _).alloc (Nat.le_refl _) (.cells #[.slice A3 ph.length c3, .slice A4 is.length c4, .int .i64 jp, .int .i64 on, .slice A5 nx.length c5] 56)) (by rw [sz2]; omega))
  have Y0 := BoxV.new (w.alloc (.cells #[.slice (some ⟨b0, o0, none⟩) cs.length cap] 30)) [.int .i64 p, .int .i64 g, .slice (some ⟨b1, o1, none⟩) bs.length c2] 44
  rw [sz1] at Y0
  replace Y0 := Lib.hid (Y0.below ((Below.refl _ _).alloc (Nat.le_refl _) (.cells #[.slice A3 ph.length c3, .slice A4 is.length c4, .int .i64 jp, .int .i64 on, .slice A5 nx.length c5] 56)) (by rw [sz2]; omega))
  have X0 := BoxV.new ((w.alloc (.cells #[.slice (some ⟨b0, o0, none⟩) cs.length cap] 30)).alloc (.cells #[.int .i64 p, .int .i64 g, .slice (some ⟨b1, o1, none⟩) bs.length c2] 44)) [.slice A3 ph.length c3, .slice A4 is.length c4, .int .i64 jp, .int .i64 on, .slice A5 nx.length c5] 56
  rw [sz2] at X0
  replace X0 := Lib.hid X0
  have hx0 : w.heap.size + 1 + 1 < (((w.alloc (.cells #[.slice (some ⟨b0, o0, none⟩) cs.length cap] 30)).alloc (.cells #[.int .i64 p, .int .i64 g, .slice (some ⟨b1, o1, none⟩) bs.length c2] 44)).alloc (.cells #[.slice A3 ph.length c3, .slice A4 is.length c4, .int .i64 jp, .int .i64 on, .slice A5 nx.length c5] 56)).heap.size := by rw [World.size_alloc, sz2]; omega
  have hbs := hb.size
  have hb1w : Below w.heap.size w (w.alloc (.cells #[.slice (some ⟨b0, o0, none⟩) cs.length cap] 30)) := (Below.refl _ _).alloc (Nat.le_refl _) _
  have e0 := (hb1w.cell (p := ⟨b0, o0 + k * 3, none⟩) hB0).trans d0
  have e1 := (hb1w.cell (p := ⟨b0, o0 + k * 3 + 1, none⟩) hB0).trans d1
  have e2 := (hb1w.cell (p := ⟨b0, o0 + k * 3 + 2, none⟩) hB0).trans d2
  have q0 := (hb2.cell (p := ⟨b1, o1 + b * 5, none⟩) hB1).trans f0
  have q1 := (hb2.cell (p := ⟨b1, o1 + b * 5 + 1, none⟩) hB1).trans f1
  have q2 := (hb2.cell (p := ⟨b1, o1 + b * 5 + 2, none⟩) hB1).trans f2
  have q3 := (hb2.cell (p := ⟨b1, o1 + b * 5 + 3, none⟩) hB1).trans f3
  have q4 := (hb2.cell (p := ⟨b1, o1 + b * 5 + 4, none⟩) hB1).trans f4
  clear sz1 sz2 d0 d1 d2 f0 f1 f2 f3 f4 hb1w hb2
  have hwr : IntKind.i64.wrap (g - 1) = g - 1 := IntWalk.i64_in _ ⟨by omega, by omega⟩
  have hwr2 : IntKind.i64.wrap ((bs.length : Int) - 1) = (bs.length : Int) - 1 := IntWalk.i64_in _ ⟨by omega, by omega⟩
  have LON := fun W => uIn_any on 0 (g - 1) W
  rw [← HRB.out] at LON
  generalize hzo : rgB on = zo at *

  have hj : ¬ (1 ≤ jp ∧ jp ≤ 3) := hd
  have HW := Lib.hid (show res = false by rw [HV.out, HJ.out, decide_eq_false hj]; rfl)
  have j1 : (jp == 1) = false := beq_no (by omega)
  have j2 : (jp == 2) = false := beq_no (by omega)
  have j3 : (jp == 3) = false := beq_no (by omega)
  clear HV HJ HO hj LON hzo HI HP HG HPL HR3 HR4 HR5 HPH HRB HNB
  go_enter Tryd.func43, Tryd.ntmps43
  go_wp2_with fail
  go_ret
  exact ⟨ret_bool' HW.out.symm, hb⟩
end Go.Proofs.YtomhomnibikceaaDoor
