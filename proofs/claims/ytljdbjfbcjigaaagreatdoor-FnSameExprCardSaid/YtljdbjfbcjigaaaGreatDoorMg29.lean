/-
  StmtValid of the program; what stands ahead of a function's Body.
-/
import Derived.Test.YtljdbjfbcjigaaaGreatDoorMg21
import Derived.Test.YtljdbjfbcjigaaaGreatDoorMg28
namespace Go.Proofs.YtljdbjfbcjigaaaGreatDoor
open Go.RowKit
set_option maxRecDepth 100000

/-- What holds while statements are surveyed. -/
def SurvRel (ks : List St) (d g m c e nn : Nat) (w : World) (i : Value) (wr : World) : Prop :=
  ∃ k : Nat, k ≤ ks.length ∧ i = .int .i64 k ∧ allTo (formT (d + 1)) ks k ∧ c + sizeTL (ks.take k) ≤ m ∧ SurvAt wr g m (c + sizeTL (ks.take k)) (max (max e nn) (nn - 1 + nestTL (ks.take k))) ∧ Touch g w wr
set_option maxHeartbeats 8000000 in
theorem survOk_succ (d : Nat) (hd : d + 1 ≤ 4) (IH : SurvOk d) : SurvOk (d + 1) := by
  intro ks g m c e A cap w hS hT hR hbk hc hc4 he hm
  by_cases hne : ks = []
  · subst hne
    exact survey_empty g m c e (d + 1) A cap w _ hS hc he hd
  have hn : ks.length ≤ 1048577 := by have := length_le_bulkTL ks; omega
  have hsz : sizeTL ks ≤ 1048577 := by have := sizeTL_bulk ks; omega
  have hnz := nestTL_le ks
  have hnp := nestTL_pos hne
  have hpos : 0 < ks.length := List.length_pos_iff.2 hne
  obtain ⟨nn, hnn⟩ : ∃ nn : Nat, nn = 4 - d := ⟨_, rfl⟩
  have e0 : (5 - ((d + 1 : Nat) : Int)) = (nn : Int) := by omega
  have e4 : 4 - (d + 1) = nn - 1 := by omega
  rw [e0, e4]
  have hn1 : 1 ≤ nn := by omega
  have hn4 : nn ≤ 4 := by omega
  have q0 : ((ks.length : Int) == 0) = false := beq_no (by omega)
  obtain ⟨h0, h1, h2⟩ := hS.cells
  have f2 := hS.free 2
  have hglt := hS.lt
  have hmax : (if e < nn then (nn : Int) else (e : Int)) = ((max e nn : Nat) : Int) := by split <;> omega
  have S0 := Lib.hid (hS.set2 (max e nn))
  have T0 := Lib.hid ((Touch.refl g w).set 2 (.int .i64 ((max e nn : Nat) : Int)))
  have HT := Lib.hid hT
  have HR := Lib.hid hR
  have HBK := Lib.hid (show bulkTL ks ≤ 1048577 from hbk)
  have HIH := Lib.hid IH
  have HNN := Lib.hid hnn
  have HE := Lib.hid (And.intro hne he)
  clear hS hT hR hbk IH e0 e4 hnn hne he
  go_enter Tryz.func173, Tryz.ntmps173
  go_wp2_with fail
  clear hmax h0 h1 h2 f2 q0
  go_loopw [27] (fun i wr => SurvRel ks d g m c e nn w i wr) (fun i _ => ks.length - (intOf i).toNat)
  case atStart => exact ⟨0, Nat.zero_le _, rfl, allTo_zero _ _, by rw [List.take_zero]; show c + 0 ≤ m; omega, by rw [List.take_zero, show max (max e nn) (nn - 1 + nestTL []) = max e nn by (show max (max e nn) (nn - 1 + 0) = _; omega)]; first | exact S0.out | (have h := S0.out; rw [show ((max e nn : Nat) : Int) = max (e : Int) (nn : Int) by omega] at h; exact h), by first | exact T0.out | (have h := T0.out; rw [show ((max e nn : Nat) : Int) = max (e : Int) (nn : Int) by omega] at h; exact h)⟩
  case round =>
    clear S0 T0
    obtain ⟨k, hk, rfl, hall, hck, hS, hTo⟩ := hrel
    have HKT := Lib.hid hall
    have htk := sizeTL_take_le ks k
    have hnk := nestTL_take_le ks k
    clear hall
    by_cases hlk : k < ks.length
    · have HTK := Lib.hid (sizeTL_take hlk)
      have HNK := Lib.hid (nestTL_take hlk)
      have HTL := Lib.hid (sizeTL_take_le ks (k + 1))
      have HKK := Lib.hid (And.intro (sizeT_kids ks[k]) (And.intro (nestT_kids ks[k]) (And.intro (bulkT_kids ks[k]) (bulkTL_mem (List.getElem_mem hlk)))))
      obtain ⟨b, o, rfl, hB, ⟨d0, d1⟩, ⟨A1, p1, d2, r1⟩, ⟨A2, p2, d3, r2⟩, A3, p3, d4, r3⟩ := (HR.out.keep (touch_keep hTo) (fun _ h => h)).at_ hlk
      have R2 := Lib.hid r2
      have R3 := Lib.hid r3
      have HV := Lib.hid (show StV wr (Ne g w.heap.size) ks[k] (.agg #[.int .i64 ks[k].op, .string ks[k].name, .slice A1 ks[k].args.length p1, .slice A2 ks[k].body.length p2, .slice A3 ks[k].els.length p3]) from ⟨A1, p1, A2, p2, A3, p3, rfl, r1, r2, r3⟩)
      clear r1 r2 r3
      have hgl := hS.lt
      have HBg : b < wr.heap.size := Nat.lt_of_lt_of_le hB.2 hTo.below.size
      generalize hkd : ks[k] = kid at *
      have HKD := Lib.hid hkd
      clear hkd
      have hnb : kid.body.length ≤ 1048576 := by have h := HKK.out.2.2; have := length_le_bulkTL kid.body; have := HBK.out; omega
      have hnl : kid.els.length ≤ 1048576 := by have h := HKK.out.2.2; have := length_le_bulkTL kid.els; have := HBK.out; omega
      generalize hck' : c + sizeTL (ks.take k) = ck at *
      generalize hek' : max (max e nn) (nn - 1 + nestTL (ks.take k)) = ek at *
      have HCK := Lib.hid hck'
      have HEK := Lib.hid hek'
      have hck6 : ck ≤ 6000000 := by omega
      clear hck' hek' htk hnk
      -- the statement's own box
      have BX0 := Lib.hid (BxL.new wr [.int .i64 kid.op, .string kid.name, .slice A1 kid.args.length p1, .slice A2 kid.body.length p2, .slice A3 kid.els.length p3] 209)
      have e1 : wr.alloc (.cells [.int .i64 kid.op, .string kid.name, .slice A1 kid.args.length p1, .slice A2 kid.body.length p2, .slice A3 kid.els.length p3].toArray 209) = wr.alloc (.cells #[.int .i64 kid.op, .string kid.name, .slice A1 kid.args.length p1, .slice A2 kid.body.length p2, .slice A3 kid.els.length p3] 209) := rfl
      rw [e1] at BX0
      clear e1
      have hal := (Below.refl wr.heap.size wr).alloc (Nat.le_refl _) (.cells #[.int .i64 kid.op, .string kid.name, .slice A1 kid.args.length p1, .slice A2 kid.body.length p2, .slice A3 kid.els.length p3] 209)
      have hlx : wr.heap.size < (wr.alloc (.cells #[.int .i64 kid.op, .string kid.name, .slice A1 kid.args.length p1, .slice A2 kid.body.length p2, .slice A3 kid.els.length p3] 209)).heap.size := by rw [World.size_alloc]; omega
      have SX0 := Lib.hid (hS.below hal)
      have HAL := Lib.hid hal
      clear hal
      go_upto_region 9 with (fail)
      generalize wr.alloc (.cells #[.int .i64 kid.op, .string kid.name, .slice A1 kid.args.length p1, .slice A2 kid.body.length p2, .slice A3 kid.els.length p3] 209) = wx at *
      clear d0 d1 d2 d3 d4
      obtain ⟨s0, s1, s2⟩ := SX0.out.cells
      have f1 := SX0.out.free 1
      obtain ⟨c1, hc1⟩ : ∃ c1 : Nat, c1 = ck + 1 := ⟨_, rfl⟩
      have hadd : (ck : Int) + 1 = (c1 : Int) := by omega
      have SY0 := Lib.hid (SX0.out.set1 c1)
      have BY0 := Lib.hid (BX0.out.other (g := g) (Nat.ne_of_lt hgl) 1 (.int .i64 (c1 : Int)))
      have TY0 := Lib.hid ((hTo.then HAL.out hgl).set 1 (.int .i64 (c1 : Int)))
      have HC1 := Lib.hid hc1
      have hlxy : wr.heap.size < (wx.setCell ⟨g, 1, none⟩ (.int .i64 (c1 : Int))).heap.size := by simpa using hlx
      clear SX0 BX0 HAL hc1 hlx
      go_upto_region 10 with (fail)
      generalize wx.setCell ⟨g, 1, none⟩ (.int .i64 (c1 : Int)) = wy at *
      clear s0 s1 s2 f1 hadd
      have hgy := SY0.out.lt
      have TB := HT.out.on TY0.out.below
      have y0 := BY0.out 0 _ rfl
      have FO := formOf_any kid.op wy TB.get.2.2
      unfold FormRet at FO
      by_cases hop : 1 ≤ kid.op ∧ kid.op ≤ 8
      · rw [if_pos hop, decide_eq_true hop] at FO
        unfold formV at FO
        have HOP := Lib.hid hop
        have CF0 := fun W (hb : Below wy.heap.size wy W) (hv : StV W (Lt W.heap.size) kid (.agg #[.int .i64 kid.op, .string kid.name, .slice A1 kid.args.length p1, .slice A2 kid.body.length p2, .slice A3 kid.els.length p3])) => formFits_any kid.op kid _ W hv (by have h := HKK.out.2.2; have := HBK.out; omega) ((TB.get).1.below hb) ((TB.get).2.1.below hb)
        unfold formV at CF0
        replace CF0 := Lib.hid CF0
        have HQ := Lib.hid (show headT kid = restFit kid.op kid.name kid.args kid.body.length kid.els.length by unfold headT; rw [decide_eq_true hop, Bool.true_and])
        clear hop TB
        generalize fKey kid.op = key at *
        generalize nmdB kid.op = nm at *
        generalize (argN kid.op : Int) = ar at *
        generalize clB kid.op = cl at *
        generalize wbB kid.op = wb at *
        generalize weB kid.op = we at *
        replace FO := Lib.hid FO
        go_wp2_with fail
        refine Calls.mono FO.out ?_
        rintro ee w1 ⟨rfl, hb1⟩
        have SZ := Lib.hid (SY0.out.below hb1)
        have BZ := Lib.hid (BY0.out.below hb1 hlxy)
        have TZ := Lib.hid (TY0.out.then hb1 hgy)
        have hgz := SZ.out.lt
        have hlz := Nat.lt_of_lt_of_le hlxy hb1.size
        have hal := (Below.refl w1.heap.size w1).alloc (Nat.le_refl _) (.cells #[.int .i64 kid.op, .string key, .bool nm, .int .i64 ar, .bool cl, .bool wb, .bool we] 282)
        have BF0 := Lib.hid (BxL.new w1 [.int .i64 kid.op, .string key, .bool nm, .int .i64 ar, .bool cl, .bool wb, .bool we] 282)
        have e1 : w1.alloc (.cells [.int .i64 kid.op, .string key, .bool nm, .int .i64 ar, .bool cl, .bool wb, .bool we].toArray 282) = w1.alloc (.cells #[.int .i64 kid.op, .string key, .bool nm, .int .i64 ar, .bool cl, .bool wb, .bool we] 282) := rfl
        rw [e1] at BF0
        clear e1
        have hlf : w1.heap.size < (w1.alloc (.cells #[.int .i64 kid.op, .string key, .bool nm, .int .i64 ar, .bool cl, .bool wb, .bool we] 282)).heap.size := by rw [World.size_alloc]; omega
        have S2 := Lib.hid (SZ.out.below hal)
        have B2 := Lib.hid (BZ.out.below hal hlz)
        have T2 := Lib.hid (TZ.out.then hal hgz)
        have HY2 := Lib.hid (hb1.trans (hal.mono hb1.size))
        clear SZ BZ TZ hal hb1 FO SY0 BY0 TY0 y0 hgy hgz hlxy
        go_upto_region 11 with (fail)
        generalize w1.alloc (.cells #[.int .i64 kid.op, .string key, .bool nm, .int .i64 ar, .bool cl, .bool wb, .bool we] 282) = w2 at *
        have hl2 : wr.heap.size < w2.heap.size := Nat.lt_trans hlz hlf
        have hg2 := S2.out.lt
        obtain ⟨s0, s1, _⟩ := S2.out.cells
        by_cases hcm : (m : Int) < (c1 : Int)
        · have q1 : decide ((m : Int) < (c1 : Int)) = true := decide_eq_true hcm
          have HN := Lib.hid (show (ks.all (formT (d + 1)) && decide (c + sizeTL ks ≤ m)) = false by
            rw [decide_eq_false (p := c + sizeTL ks ≤ m) (by have h1 := HKK.out.1; have h2 := HTK.out; have h3 := HTL.out; have h4 := HCK.out; have h5 := HC1.out; omega), Bool.and_false])
          clear CF0 HIH HQ
          go_wp2_with fail
          go_quiet (fail)
          go_wp2
          go_ret
          exact ⟨by rw [HN.out]; rfl, T2.out.trans (.of_below (below_drewN (Below.refl _ _) _) hg2), c1, ek, S2.out, fun h => by rw [HN.out] at h; cases h⟩
        · have q1 : decide ((m : Int) < (c1 : Int)) = false := decide_eq_false hcm
          have q2 : decide (m < c1) = false := decide_eq_false (by omega)
          have q3 : ¬ m < c1 := by omega
          have x0 := B2.out 0 _ rfl
          have x1 := B2.out 1 _ rfl
          have x2 := B2.out 2 _ rfl
          have x3 := B2.out 3 _ rfl
          have x4 := B2.out 4 _ rfl
          have z0 := BF0.out 0 _ rfl
          have z1 := BF0.out 1 _ rfl
          have z2 := BF0.out 2 _ rfl
          have z3 := BF0.out 3 _ rfl
          have z4 := BF0.out 4 _ rfl
          have z5 := BF0.out 5 _ rfl
          have z6 := BF0.out 6 _ rfl
          have CF := CF0.out w2.drew HY2.out.drew (HV.out.keep (fun b o hb => (show w2.drew.cell? ⟨b, o, none⟩ = w.cell? ⟨b, o, none⟩ from touch_keep T2.out b o hb).trans (touch_keep hTo b o hb).symm) (fun b hb => Nat.lt_of_lt_of_le hb.2 T2.out.below.size))
          clear CF0
          cases hrf : restFit kid.op kid.name kid.args kid.body.length kid.els.length
          · rw [hrf] at CF
            replace CF := Lib.hid CF
            have HN := Lib.hid (show (ks.all (formT (d + 1)) && decide (c + sizeTL ks ≤ m)) = false by
              rw [all_bad (p := formT (d + 1)) hlk (by rw [HKD.out, formT_succ, HQ.out, hrf]; rfl), Bool.false_and])
            clear hrf HIH
            go_wp2_with fail
            go_region_held3 (fun u => u.cell? ⟨g, 0, none⟩ = some (.int .i64 (m : Int)) ∧ u.cell? ⟨g, 1, none⟩ = some (.int .i64 (c1 : Int)) ∧ u.cell? ⟨w1.heap.size, 0, none⟩ = some (.int .i64 kid.op) ∧ u.cell? ⟨w1.heap.size, 1, none⟩ = some (.string key) ∧ u.cell? ⟨w1.heap.size, 2, none⟩ = some (.bool nm) ∧ u.cell? ⟨w1.heap.size, 3, none⟩ = some (.int .i64 ar) ∧ u.cell? ⟨w1.heap.size, 4, none⟩ = some (.bool cl) ∧ u.cell? ⟨w1.heap.size, 5, none⟩ = some (.bool wb) ∧ u.cell? ⟨w1.heap.size, 6, none⟩ = some (.bool we) ∧ u.cell? ⟨wr.heap.size, 0, none⟩ = some (.int .i64 kid.op) ∧ u.cell? ⟨wr.heap.size, 1, none⟩ = some (.string kid.name) ∧ u.cell? ⟨wr.heap.size, 2, none⟩ = some (.slice A1 kid.args.length p1) ∧ u.cell? ⟨wr.heap.size, 3, none⟩ = some (.slice A2 kid.body.length p2) ∧ u.cell? ⟨wr.heap.size, 4, none⟩ = some (.slice A3 kid.els.length p3)) (go_keep)
              (first | (go_at_call 213; (with_reducible refine Calls.mono CF.out ?_); rintro ee w3 ⟨rfl, hb3⟩; have g0 := (hb3.cell (p := ⟨g, 0, none⟩) hg2).trans s0; have g1 := (hb3.cell (p := ⟨g, 1, none⟩) hg2).trans s1; have v0 := (hb3.cell (p := ⟨w1.heap.size, 0, none⟩) hlf).trans z0; have v1 := (hb3.cell (p := ⟨w1.heap.size, 1, none⟩) hlf).trans z1; have v2 := (hb3.cell (p := ⟨w1.heap.size, 2, none⟩) hlf).trans z2; have v3 := (hb3.cell (p := ⟨w1.heap.size, 3, none⟩) hlf).trans z3; have v4 := (hb3.cell (p := ⟨w1.heap.size, 4, none⟩) hlf).trans z4; have v5 := (hb3.cell (p := ⟨w1.heap.size, 5, none⟩) hlf).trans z5; have v6 := (hb3.cell (p := ⟨w1.heap.size, 6, none⟩) hlf).trans z6; have t0 := (hb3.cell (p := ⟨wr.heap.size, 0, none⟩) hl2).trans x0; have t1 := (hb3.cell (p := ⟨wr.heap.size, 1, none⟩) hl2).trans x1; have t2 := (hb3.cell (p := ⟨wr.heap.size, 2, none⟩) hl2).trans x2; have t3 := (hb3.cell (p := ⟨wr.heap.size, 3, none⟩) hl2).trans x3; have t4 := (hb3.cell (p := ⟨wr.heap.size, 4, none⟩) hl2).trans x4))
            all_goals
              go_wp2_with fail
              go_ret
              exact ⟨by rw [HN.out]; rfl, T2.out.trans (.of_below (((Below.refl _ _).drew).trans hb3) hg2), c1, ek, (show SurvAt w2.drew g m c1 ek from S2.out).below hb3, fun h => by rw [HN.out] at h; cases h⟩
          · rw [hrf] at CF
            replace CF := Lib.hid CF
            have HHT := Lib.hid (HQ.out.trans hrf)
            clear hrf HQ
            go_wp2_with fail
            go_region_held3 (fun u => u.cell? ⟨g, 0, none⟩ = some (.int .i64 (m : Int)) ∧ u.cell? ⟨g, 1, none⟩ = some (.int .i64 (c1 : Int)) ∧ u.cell? ⟨w1.heap.size, 0, none⟩ = some (.int .i64 kid.op) ∧ u.cell? ⟨w1.heap.size, 1, none⟩ = some (.string key) ∧ u.cell? ⟨w1.heap.size, 2, none⟩ = some (.bool nm) ∧ u.cell? ⟨w1.heap.size, 3, none⟩ = some (.int .i64 ar) ∧ u.cell? ⟨w1.heap.size, 4, none⟩ = some (.bool cl) ∧ u.cell? ⟨w1.heap.size, 5, none⟩ = some (.bool wb) ∧ u.cell? ⟨w1.heap.size, 6, none⟩ = some (.bool we) ∧ u.cell? ⟨wr.heap.size, 0, none⟩ = some (.int .i64 kid.op) ∧ u.cell? ⟨wr.heap.size, 1, none⟩ = some (.string kid.name) ∧ u.cell? ⟨wr.heap.size, 2, none⟩ = some (.slice A1 kid.args.length p1) ∧ u.cell? ⟨wr.heap.size, 3, none⟩ = some (.slice A2 kid.body.length p2) ∧ u.cell? ⟨wr.heap.size, 4, none⟩ = some (.slice A3 kid.els.length p3)) (go_keep)
              (first | (go_at_call 213; (with_reducible refine Calls.mono CF.out ?_); rintro ee w3 ⟨rfl, hb3⟩; have g0 := (hb3.cell (p := ⟨g, 0, none⟩) hg2).trans s0; have g1 := (hb3.cell (p := ⟨g, 1, none⟩) hg2).trans s1; have v0 := (hb3.cell (p := ⟨w1.heap.size, 0, none⟩) hlf).trans z0; have v1 := (hb3.cell (p := ⟨w1.heap.size, 1, none⟩) hlf).trans z1; have v2 := (hb3.cell (p := ⟨w1.heap.size, 2, none⟩) hlf).trans z2; have v3 := (hb3.cell (p := ⟨w1.heap.size, 3, none⟩) hlf).trans z3; have v4 := (hb3.cell (p := ⟨w1.heap.size, 4, none⟩) hlf).trans z4; have v5 := (hb3.cell (p := ⟨w1.heap.size, 5, none⟩) hlf).trans z5; have v6 := (hb3.cell (p := ⟨w1.heap.size, 6, none⟩) hlf).trans z6; have t0 := (hb3.cell (p := ⟨wr.heap.size, 0, none⟩) hl2).trans x0; have t1 := (hb3.cell (p := ⟨wr.heap.size, 1, none⟩) hl2).trans x1; have t2 := (hb3.cell (p := ⟨wr.heap.size, 2, none⟩) hl2).trans x2; have t3 := (hb3.cell (p := ⟨wr.heap.size, 3, none⟩) hl2).trans x3; have t4 := (hb3.cell (p := ⟨wr.heap.size, 4, none⟩) hl2).trans x4))
            all_goals
              have S3 := Lib.hid ((show SurvAt w2.drew g m c1 ek from S2.out).below hb3)
              have T3 := Lib.hid (T2.out.trans (.of_below (((Below.refl w2.heap.size w2).drew).trans hb3) hg2))
              have hg3 := S3.out.lt
              have hl3 : wr.heap.size < w3.heap.size := Nat.lt_of_lt_of_le hl2 hb3.size
              have HH := Lib.hid HKK.out
              have IH1 := HIH.out kid.body g m c1 ek A2 p2 w3 S3.out (HT.out.on T3.out.below) (R2.out.keep (fun b o hb => (touch_keep T3.out b o hb).trans (touch_keep hTo b o hb).symm) (fun b hb => ⟨hb.1, Nat.lt_of_lt_of_le hb.2 T3.out.below.size⟩)) (by have h := HKK.out.2.2; have := HBK.out; omega) (by omega) (by have h1 := HKK.out.1; have h2 := HTK.out; have h3 := HTL.out; have h4 := HCK.out; have h5 := HC1.out; omega) (by have h1 := HEK.out; have h2 := HNN.out; omega) hm
              have e5 : (5 - (d : Int)) = (nn : Int) + 1 := by have := HNN.out; omega
              rw [e5] at IH1
              clear S2 T2 hb3 g0 g1 v0 v1 v2 v3 v4 v5 v6 t0 t1 t2 x0 x1 x2 x3 x4 z0 z1 z2 z3 z4 z5 z6 CF s0 s1 B2 BF0 HY2
              cases hb1 : (kid.body.all (formT d) && decide (c1 + sizeTL kid.body ≤ m))
              · rw [hb1] at IH1
                have HN := Lib.hid (show (ks.all (formT (d + 1)) && decide (c + sizeTL ks ≤ m)) = false by
                  rw [Bool.and_eq_false_iff] at hb1
                  rcases hb1 with h | h
                  · rw [all_bad (p := formT (d + 1)) hlk (by rw [HKD.out, formT_succ, h, Bool.false_and, Bool.and_false]), Bool.false_and]
                  · rw [decide_eq_false (p := c + sizeTL ks ≤ m) (by have h0 := of_decide_eq_false h; have h1 := HKK.out.1; have h2 := HTK.out; have h3 := HTL.out; have h4 := HCK.out; have h5 := HC1.out; omega), Bool.and_false])
                clear hb1 HIH
                replace IH1 := Lib.hid IH1
                go_wp2_with fail
                refine Calls.mono IH1.out ?_
                rintro ee w4 ⟨rfl, t4', c', d', s4, _⟩
                have HS4 := Lib.hid s4
                have HT4 := Lib.hid (T3.out.trans t4')
                clear s4 t4' IH1
                go_wp2_with fail
                go_ret
                exact ⟨by rw [HN.out]; rfl, HT4.out, c', d', HS4.out, fun h => by rw [HN.out] at h; cases h⟩
              · rw [hb1] at IH1
                rw [Bool.and_eq_true, decide_eq_true_eq] at hb1
                have HB1 := Lib.hid hb1
                clear hb1
                replace IH1 := Lib.hid IH1
                go_wp2_with fail
                refine Calls.mono IH1.out ?_
                rintro ee w4 ⟨rfl, t4', c', d', s4, hcd⟩
                obtain ⟨hc', hd'⟩ := hcd rfl
                subst hc' hd'
                have g4 := (t4'.cell (o := 4) hgl hl3).trans t4
                have HS4 := Lib.hid s4
                have HT4 := Lib.hid (T3.out.trans t4')
                clear s4 t4' IH1 t3 t4
                have IH2 := HIH.out kid.els g m _ _ A3 p3 w4 HS4.out (HT.out.on HT4.out.below) (R3.out.keep (fun b o hb => (touch_keep HT4.out b o hb).trans (touch_keep hTo b o hb).symm) (fun b hb => ⟨hb.1, Nat.lt_of_lt_of_le hb.2 HT4.out.below.size⟩)) (by have h := HKK.out.2.2; have := HBK.out; omega) HB1.out.2 (by have h1 := HKK.out.1; have h2 := HTK.out; have h3 := HTL.out; have h4 := HCK.out; have h5 := HC1.out; omega) (by have h1 := HEK.out; have h2 := HNN.out; omega) hm
                rw [e5] at IH2
                clear e5 HIH
                cases hb2 : (kid.els.all (formT d) && decide (c1 + sizeTL kid.body + sizeTL kid.els ≤ m))
                · rw [hb2] at IH2
                  have HN := Lib.hid (show (ks.all (formT (d + 1)) && decide (c + sizeTL ks ≤ m)) = false by
                    rw [Bool.and_eq_false_iff] at hb2
                    rcases hb2 with h | h
                    · rw [all_bad (p := formT (d + 1)) hlk (by rw [HKD.out, formT_succ, h, Bool.and_false, Bool.and_false]), Bool.false_and]
                    · rw [decide_eq_false (p := c + sizeTL ks ≤ m) (by have h0 := of_decide_eq_false h; have h1 := HKK.out.1; have h2 := HTK.out; have h3 := HTL.out; have h4 := HCK.out; have h5 := HC1.out; omega), Bool.and_false])
                  clear hb2
                  replace IH2 := Lib.hid IH2
                  go_wp2_with fail
                  refine Calls.mono IH2.out ?_
                  rintro ee w5 ⟨rfl, t5', c', d', s5, _⟩
                  have HS5 := Lib.hid s5
                  have HT5 := Lib.hid (HT4.out.trans t5')
                  clear s5 t5' IH2
                  go_wp2_with fail
                  go_ret
                  exact ⟨by rw [HN.out]; rfl, HT5.out, c', d', HS5.out, fun h => by rw [HN.out] at h; cases h⟩
                · rw [hb2] at IH2
                  rw [Bool.and_eq_true, decide_eq_true_eq] at hb2
                  have HB2 := Lib.hid hb2
                  clear hb2
                  replace IH2 := Lib.hid IH2
                  go_wp2_with fail
                  refine Calls.mono IH2.out ?_
                  rintro ee w5 ⟨rfl, t5', c', d', s5, hcd⟩
                  obtain ⟨hc', hd'⟩ := hcd rfl
                  subst hc' hd'
                  have HS5 := Lib.hid s5
                  have HT5 := Lib.hid (HT4.out.trans t5')
                  clear s5 t5' IH2 hcd
                  go_wp2_with fail
                  go_roundw
                  case rel =>
                    have h1 := HKK.out.1
                    have h2 := HTK.out
                    have h4 := HCK.out
                    have h5 := HC1.out
                    have h6 := HNK.out
                    have h7 := HKK.out.2.1
                    have h8 := HEK.out
                    have h9 := HNN.out
                    have h10 : max (max e nn) (nn - 1 + max (nestTL (ks.take k)) (1 + max (nestTL kid.body) (nestTL kid.els))) = max (max ek (4 - d + nestTL kid.body)) (4 - d + nestTL kid.els) := by
                      clear h1 h2 h4 h5 h6 h7
                      omega
                    refine ⟨k + 1, by omega, by go_num, allTo_succ HKT.out hlk (by rw [HKD.out, formT_succ, HHT.out, HB1.out.1, HB2.out.1]; rfl), by rw [h2, h1]; have := HB2.out.2; omega, ?_, HT5.out⟩
                    rw [h2, h1, h6, h7, show c + (sizeTL (ks.take k) + (1 + sizeTL kid.body + sizeTL kid.els)) = c1 + sizeTL kid.body + sizeTL kid.els by omega, h10]
                    exact HS5.out
                  case measure => simp only [intOf]; omega
      · rw [if_neg hop, decide_eq_false hop] at FO
        unfold form0 at FO
        have HN := Lib.hid (show (ks.all (formT (d + 1)) && decide (c + sizeTL ks ≤ m)) = false by
          rw [all_bad (p := formT (d + 1)) hlk (by rw [HKD.out, formT_succ]; unfold headT; rw [decide_eq_false hop]; rfl), Bool.false_and])
        clear hop TB HIH
        replace FO := Lib.hid FO
        go_wp2_with fail
        refine Calls.mono FO.out ?_
        rintro ee w1 ⟨rfl, hb1⟩
        have hal := (Below.refl w1.heap.size w1).alloc (Nat.le_refl _) (.cells #[.int .i64 0, .string ⟨#[]⟩, .bool false, .int .i64 0, .bool false, .bool false, .bool false] 282)
        have SZ := Lib.hid (SY0.out.below hb1)
        have TZ := Lib.hid (TY0.out.then hb1 hgy)
        have hgz := SZ.out.lt
        have S2 := Lib.hid (SZ.out.below hal)
        have T2 := Lib.hid (TZ.out.then hal hgz)
        clear SZ TZ hal hb1 FO SY0 BY0 TY0 y0 hgy hgz hlxy
        go_upto_region 11 with (fail)
        generalize w1.alloc (.cells #[.int .i64 0, .string ⟨#[]⟩, .bool false, .int .i64 0, .bool false, .bool false, .bool false] 282) = w2 at *
        have hg2 := S2.out.lt
        go_wp2_with fail
        go_quiet (fail)
        go_wp2
        go_ret
        exact ⟨by rw [HN.out]; rfl, T2.out.trans (.of_below (below_drewN (Below.refl _ _) _) hg2), c1, ek, S2.out, fun h => by rw [HN.out] at h; cases h⟩
    · obtain rfl : k = ks.length := by omega
      rw [List.take_length] at hck hS
      have HN := Lib.hid (show (ks.all (formT (d + 1)) && decide (c + sizeTL ks ≤ m)) = true by rw [all_of HKT.out, decide_eq_true hck]; rfl)
      have HS := Lib.hid hS
      have HTo := Lib.hid hTo
      clear hS hTo hck
      go_wp2_with fail
      go_ret
      exact ⟨by rw [HN.out]; rfl, HTo.out, _, _, HS.out, fun _ => ⟨rfl, by omega⟩⟩
theorem survOk_any : ∀ d, d ≤ 4 → SurvOk d
  | 0, _ => survOk_zero
  | d + 1, hd => survOk_succ d hd (survOk_any d (by omega))
end Go.Proofs.YtljdbjfbcjigaaaGreatDoor

namespace Go.Proofs.YtljdbjfbcjigaaaGreatDoor
open Go.RowKit
set_option maxRecDepth 100000

theorem all_one {p : St → Bool} (t : St) : [t].all p = p t := by simp
theorem SurvAt.new (w : World) (m c d : Nat) : SurvAt (w.alloc (.cells #[.int .i64 (m : Int), .int .i64 (c : Int), .int .i64 (d : Int)] 169)) w.heap.size m c d := by
  unfold SurvAt
  show (w.heap.push _)[w.heap.size]? = _
  simp
/-- The three blocks of StmtValid. -/
theorem valid_blocks (t : St) (w : World) (A1 : Option Addr) (p1 : Nat) (A2 : Option Addr) (p2 : Nat) (A3 : Option Addr) (p3 : Nat) (o : Obj) (r1 : PdS w (Lt w.heap.size) t.args A1) (r2 : StS w (Lt w.heap.size) t.body A2) (r3 : StS w (Lt w.heap.size) t.els A3) (e : TypeId) :
    ∃ W : World, W = ((w.alloc o).alloc (.cells #[.int .i64 9223372036854775807, .int .i64 0, .int .i64 0] 169)).alloc (.cells #[.int .i64 t.op, .string t.name, .slice A1 t.args.length p1, .slice A2 t.body.length p2, .slice A3 t.els.length p3] e) ∧
      SurvAt W (w.heap.size + 1) 9223372036854775807 0 0 ∧ Below w.heap.size w W ∧ StS W (Ne (w.heap.size + 1) W.heap.size) [t] (some ⟨w.heap.size + 1 + 1, 0, none⟩) := by
  refine ⟨_, rfl, ?_⟩
  have s1 : (w.alloc o).heap.size = w.heap.size + 1 := World.size_alloc _ _
  have S := SurvAt.new (w.alloc o) 9223372036854775807 0 0
  rw [s1] at S
  have e0 : (w.alloc o).alloc (.cells #[.int .i64 ((9223372036854775807 : Nat) : Int), .int .i64 ((0 : Nat) : Int), .int .i64 ((0 : Nat) : Int)] 169) = (w.alloc o).alloc (.cells #[.int .i64 9223372036854775807, .int .i64 0, .int .i64 0] 169) := rfl
  rw [e0] at S
  clear e0
  have s2 : ((w.alloc o).alloc (.cells #[.int .i64 9223372036854775807, .int .i64 0, .int .i64 0] 169)).heap.size = w.heap.size + 1 + 1 := by rw [World.size_alloc, s1]
  have hb2 := two_boxes w o (.cells #[.int .i64 9223372036854775807, .int .i64 0, .int .i64 0] 169)
  generalize (w.alloc o).alloc (.cells #[.int .i64 9223372036854775807, .int .i64 0, .int .i64 0] 169) = w2 at *
  have hal := (Below.refl w2.heap.size w2).alloc (Nat.le_refl _) (.cells #[.int .i64 t.op, .string t.name, .slice A1 t.args.length p1, .slice A2 t.body.length p2, .slice A3 t.els.length p3] e)
  have B := BxL.new w2 [.int .i64 t.op, .string t.name, .slice A1 t.args.length p1, .slice A2 t.body.length p2, .slice A3 t.els.length p3] e
  rw [s2] at B
  have hb := hb2.trans (hal.mono hb2.size)
  have hlt : w.heap.size + 1 + 1 < (w2.alloc (.cells #[.int .i64 t.op, .string t.name, .slice A1 t.args.length p1, .slice A2 t.body.length p2, .slice A3 t.els.length p3] e)).heap.size := by rw [World.size_alloc, s2]; omega
  refine ⟨S.below hal, hb, .inr ⟨_, _, rfl, ⟨by omega, hlt⟩, ?_⟩⟩
  have hc := lt_keep hb
  have hq : ∀ b, Lt w.heap.size b → Ne (w.heap.size + 1) (w2.alloc (.cells #[.int .i64 t.op, .string t.name, .slice A1 t.args.length p1, .slice A2 t.body.length p2, .slice A3 t.els.length p3] e)).heap.size b := fun b (h : b < w.heap.size) => ⟨by omega, by omega⟩
  refine StC.mk fun i hi => ?_
  have hi0 : i = 0 := by simpa using hi
  subst hi0
  exact ⟨⟨B 0 _ rfl, B 1 _ rfl⟩, ⟨A1, p1, B 2 _ rfl, r1.keep hc hq⟩, ⟨A2, p2, B 3 _ rfl, r2.keep hc hq⟩, A3, p3, B 4 _ rfl, r3.keep hc hq⟩
set_option maxHeartbeats 2000000 in
theorem headFits_any (f : Fu) (hbk : bulkF f ≤ 1048576) (v : Value) (w : World) (hV : FuV w (Lt w.heap.size) f v) (T : Tabs w) :
    Calls Tryz.prog 172 #[v] w (BoolB (headF f) w) := by
  obtain ⟨A1, p1, A2, p2, rfl, r1, _⟩ := hV
  have HF := Lib.hid (show headF f = (nameB f.name && (decide (f.params.length ≤ 3) && f.params.all nameB)) from rfl)
  generalize headF f = res at *
  unfold bulkF at hbk
  obtain ⟨s, a, bd⟩ := f
  dsimp only at *
  have hla := length_le_bulkS a
  have c0 := alloc_cell w #[.string s, .slice A1 a.length p1, .slice A2 bd.length p2] 70 (0, 0) 0
  have c1 := alloc_cell w #[.string s, .slice A1 a.length p1, .slice A2 bd.length p2] 70 (0, 0) 1
  have hlt : w.heap.size < (w.alloc (.cells #[.string s, .slice A1 a.length p1, .slice A2 bd.length p2] 70)).heap.size := by rw [World.size_alloc]; omega
  have hb : Below w.heap.size w (w.alloc (.cells #[.string s, .slice A1 a.length p1, .slice A2 bd.length p2] 70)) := (Below.refl _ _).alloc (Nat.le_refl _) _
  have R1 := fun W h => Lib.hid (r1.on (w' := W) (B' := W.heap.size) h h.size)
  have TT := fun W h => Lib.hid (T.below (w' := W) h)
  have hn : a.length ≤ 1048576 := by omega
  clear r1 hbk hla T
  replace c0 : (w.alloc (.cells #[.string s, .slice A1 a.length p1, .slice A2 bd.length p2] 70)).cell? ⟨w.heap.size, 0, none⟩ = some (.string s) := c0
  replace c1 : (w.alloc (.cells #[.string s, .slice A1 a.length p1, .slice A2 bd.length p2] 70)).cell? ⟨w.heap.size, 1, none⟩ = some (.slice A1 a.length p1) := c1
  go_enter Tryz.func172, Tryz.ntmps172
  go_upto_region 1 with (fail)
  generalize w.alloc (.cells #[.string s, .slice A1 a.length p1, .slice A2 bd.length p2] 70) = wa at *
  have CN := implIsName_any s wa (TT _ hb).out
  cases h1 : nameB s
  · rw [h1] at CN
    have HN := Lib.hid (show res = false by rw [HF.out, h1]; rfl)
    clear h1 R1 TT
    replace CN := Lib.hid CN
    go_wp2_with ((go_at_call 148; (with_reducible refine Calls.mono CN.out ?_); rintro ee w2 ⟨rfl, rfl⟩))
    go_ret
    exact ⟨by rw [HN.out]; rfl, hb⟩
  rw [h1] at CN
  have H1 := Lib.hid h1
  clear h1
  replace CN := Lib.hid CN
  by_cases h3 : (3 : Int) < (a.length : Int)
  · have HN := Lib.hid (show res = false by rw [HF.out, H1.out, decide_eq_false (p := a.length ≤ 3) (by omega)]; rfl)
    clear R1 TT
    go_wp2_with ((go_at_call 148; (with_reducible refine Calls.mono CN.out ?_); rintro ee w2 ⟨rfl, rfl⟩))
    go_ret
    exact ⟨by rw [HN.out]; rfl, hb⟩
  have HQ := Lib.hid (show res = a.all nameB by rw [HF.out, H1.out, decide_eq_true (p := a.length ≤ 3) (by omega)]; rfl)
  go_wp2_with ((go_at_call 148; (with_reducible refine Calls.mono CN.out ?_); rintro ee w2 ⟨rfl, rfl⟩))
  clear CN c0 c1
  go_loopw [18] (fun i wr => ∃ k : Nat, k ≤ a.length ∧ i = .int .i64 k ∧ allTo nameB a k ∧ wr = wa) (fun i _ => a.length - (intOf i).toNat)
  case atStart => exact ⟨0, Nat.zero_le _, rfl, allTo_zero _ _, rfl⟩
  case round =>
    obtain ⟨k, hk, rfl, hall, rfl⟩ := hrel
    have HKT := Lib.hid hall
    clear hall
    by_cases hlk : k < a.length
    · obtain ⟨b, o, rfl, hB, d0⟩ := (R1 _ hb).out.at_ hlk
      have CN := implIsName_any a[k] _ (TT _ hb).out
      clear R1 TT
      generalize hkd : a[k] = kid at *
      have HKD := Lib.hid hkd
      clear hkd
      cases hv : nameB kid
      · rw [hv] at CN
        have HN := Lib.hid (show res = false by rw [HQ.out, all_bad (p := nameB) hlk (by rw [HKD.out]; exact hv)])
        clear hv
        replace CN := Lib.hid CN
        go_wp2_with ((go_at_call 148; (with_reducible refine Calls.mono CN.out ?_); rintro ee w2 ⟨rfl, rfl⟩))
        go_ret
        exact ⟨by rw [HN.out]; rfl, hb⟩
      · rw [hv] at CN
        have HN := Lib.hid (allTo_succ HKT.out hlk (by rw [HKD.out]; exact hv))
        clear hv
        replace CN := Lib.hid CN
        go_wp2_with ((go_at_call 148; (with_reducible refine Calls.mono CN.out ?_); rintro ee w2 ⟨rfl, rfl⟩))
        go_roundw
        case rel => exact ⟨k + 1, by omega, by go_num, HN.out, by first | rfl | trivial⟩
        case measure => simp only [intOf]; omega
    · obtain rfl : k = a.length := by omega
      have HN := Lib.hid (show res = true by rw [HQ.out, all_of HKT.out])
      go_wp2_with fail
      go_ret
      exact ⟨by rw [HN.out]; rfl, hb⟩
end Go.Proofs.YtljdbjfbcjigaaaGreatDoor
