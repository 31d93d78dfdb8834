/-
  What the laws' own helpers do with functions and programs: how much they hold.
-/
import Derived.Test.YtljdbjfbcjigaaaGreatDoorMg11
import Derived.Test.YtljdbjfbcjigaaaGreatDoorMg15
import Derived.Test.YtljdbjfbcjigaaaGreatDoorMg17
import Derived.Test.YtljdbjfbcjigaaaGreatDoorMg20
import Derived.Deep.RegionLaw
namespace Go.Proofs.YtljdbjfbcjigaaaGreatDoor
open Go.RowKit
set_option maxRecDepth 100000

set_option maxHeartbeats 1000000 in
theorem l3Args_any (op : Int) (w : World) :
    Calls Tryz.prog 239 #[.int .i64 op] w fun e w' => e = .returned (.int .i64 (argN op : Int)) ∧ w = w' := by
  by_cases h : op = 4
  · subst h
    go_enter Tryz.func239, Tryz.ntmps239
    go_wp2
    go_ret
    exact ⟨rfl, rfl⟩
  · have b1 : (op == 4) = false := beq_no h
    rw [show argN op = 1 from if_neg h]
    clear h
    go_enter Tryz.func239, Tryz.ntmps239
    go_wp2
    go_ret
    exact ⟨rfl, rfl⟩
set_option maxHeartbeats 2000000 in
theorem l3Stmt_zero (t : St) (v : Value) (w : World) (hV : StV w (Lt w.heap.size) t v) : Calls Tryz.prog 209 #[v, .int .i64 0] w (BoolB (formT 0 t) w) := by
  obtain ⟨A1, p1, A2, p2, A3, p3, rfl, _, _, _⟩ := hV
  obtain ⟨c0, c1, c2, c3, c4, hlt, hb⟩ := box5 w (.int .i64 t.op) (.string t.name) (.slice A1 t.args.length p1) (.slice A2 t.body.length p2) (.slice A3 t.els.length p3) 209
  go_enter Tryz.func209, Tryz.ntmps209
  go_wp2
  go_quiet (fail)
  go_wp2
  go_ret
  exact ⟨rfl, below_drewN hb _⟩
noncomputable def callFit (op : Int) (al : List E) : Bool := decide (op ≠ 8) || al.all (fun e => decide (e.op = 13))
theorem argOk_all (op : Int) (al : List E) : al.all (argOk op) = (al.all validE && callFit op al) := by
  unfold callFit argOk
  by_cases h : op = 8
  · simp only [h, ne_eq, not_true_eq_false, decide_false, Bool.false_or]
    rw [Bool.eq_iff_iff, Bool.and_eq_true, List.all_eq_true, List.all_eq_true, List.all_eq_true]
    simp only [Bool.and_eq_true]
    exact ⟨fun h => ⟨fun x hx => (h x hx).1, fun x hx => (h x hx).2⟩, fun h x hx => ⟨h.1 x hx, h.2 x hx⟩⟩
  · simp [h]
/-- The form of a statement, in the model's order. -/
theorem formT_ask (d : Nat) (op : Int) (s : ByteArray) (a : List E) (bd el : List St) : formT (d + 1) (.mk op s a bd el) =
    ((inB 1 op 8 && decide (a.length = argN op)) && (nameFit op s && (a.all validE && (callFit op a && ((bodyFit op bd.length && elseFit op el.length) && (bd.all (formT d) && el.all (formT d))))))) := by
  rw [formT_succ]
  unfold headT restFit argsFit
  rw [argOk_all]
  show _ = _
  dsimp only [St.op, St.name, St.args, St.body, St.els]
  unfold inB
  ac_rfl
set_option maxHeartbeats 4000000 in
theorem l3Stmt_succ (d : Nat) (hd : d < 100) (t : St) (v : Value) (w : World) (hV : StV w (Lt w.heap.size) t v) (hbk : bulkT t ≤ 1048576)
    (IH : ∀ (ks : List St) (A : Option Addr) (cap : Nat) (w : World), StS w (Lt w.heap.size) ks A → bulkTL ks ≤ 1048576 → Calls Tryz.prog 166 #[.slice A ks.length cap, .int .i64 d] w (BoolB (ks.all (formT d)) w)) :
    Calls Tryz.prog 209 #[v, .int .i64 ((d : Int) + 1)] w (BoolB (formT (d + 1) t) w) := by
  obtain ⟨A1, p1, A2, p2, A3, p3, rfl, r1, r2, r3⟩ := hV
  rw [bulkT_kids] at hbk
  obtain ⟨op, s, a, bd, el⟩ := t
  have HF := Lib.hid (formT_ask d op s a bd el)
  dsimp only [St.op, St.name, St.args, St.body, St.els] at *
  generalize formT (d + 1) (St.mk op s a bd el) = res at *
  obtain ⟨c0, c1, c2, c3, c4, hlt, hb⟩ := box5 w (.int .i64 op) (.string s) (.slice A1 a.length p1) (.slice A2 bd.length p2) (.slice A3 el.length p3) 209
  have hla := length_le_sizeL a
  have hla2 := sizeL_bulk a
  have hlb := length_le_bulkTL bd
  have hle := length_le_bulkTL el
  have R1 := fun W h => Lib.hid ((r1.on (w' := W) (B' := W.heap.size) h h.size).lt_rd)
  have CB := fun W h => Lib.hid (IH bd A2 p2 W (r2.on (w' := W) (B' := W.heap.size) h h.size) (by omega))
  have CE := fun W h => Lib.hid (IH el A3 p3 W (r3.on (w' := W) (B' := W.heap.size) h h.size) (by omega))
  have HBK := Lib.hid hbk
  have hs : s.size ≤ 1048576 := by omega
  have hn1 : a.length ≤ 1048576 := by omega
  have hn2 : bd.length ≤ 1048576 := by omega
  have hn3 : el.length ≤ 1048576 := by omega
  clear IH r1 r2 r3 hbk hla hla2 hlb hle
  go_enter Tryz.func209, Tryz.ntmps209
  go_upto_region 1 with (fail)
  generalize w.alloc (.cells #[.int .i64 op, .string s, .slice A1 a.length p1, .slice A2 bd.length p2, .slice A3 el.length p3] 209) = wa at *
  go_cut [23] (fun v wx => v = .bool (!(inB 1 op 8 && decide (a.length = argN op))) ∧ Below wa.heap.size wa wx)
  case first =>
    have q1 : decide ((d : Int) + 1 < 1) = false := decide_eq_false (by omega)
    clear R1 CB CE c1 c3 c4
    have L1 := fun W => Lib.hid (l1In_b op 1 8 W)
    cases h1 : inB 1 op 8
    · rw [h1] at L1
      have H1 := Lib.hid h1
      clear h1
      have e1 : (!true) = false := rfl
      go_wp2_with fail
      go_quiet (first | (go_at_call 107; exact Calls.quiet_of_same ((L1 _).out.mono fun _ _ h => ⟨h.1, h.2.symm⟩)))
      go_wp2
      go_meet
      exact ⟨by rw [H1.out]; rfl, below_drewN (Below.refl _ _) _⟩
    · rw [h1] at L1
      have H1 := Lib.hid h1
      clear h1
      have L2 := fun W => Lib.hid (l3Args_any op W)
      by_cases h2 : a.length = argN op
      · have e1 : ((a.length : Int) != (argN op : Int)) = false := by rw [h2]; simp
        have H2 := Lib.hid (show (!(inB 1 op 8 && decide (a.length = argN op))) = false by rw [H1.out, decide_eq_true h2]; rfl)
        clear h2
        generalize hgn : argN op = ar at L2 e1
        clear hgn
        go_wp2_with fail
        go_quiet (first | (go_at_call 107; exact Calls.quiet_of_same ((L1 _).out.mono fun _ _ h => ⟨h.1, h.2.symm⟩)) | (go_at_call 239; exact Calls.quiet_of_same ((L2 _).out.mono fun _ _ h => ⟨h.1, h.2.symm⟩)))
        go_wp2
        go_meet
        exact ⟨by rw [H2.out], below_drewN (Below.refl _ _) _⟩
      · have e0 : ((a.length : Int) == (argN op : Int)) = false := beq_no (by omega)
        have e1 : ((a.length : Int) != (argN op : Int)) = true := by rw [bne, e0]; rfl
        have H2 := Lib.hid (show (!(inB 1 op 8 && decide (a.length = argN op))) = true by rw [H1.out, decide_eq_false h2]; rfl)
        clear h2 e0
        generalize hgn : argN op = ar at L2 e1
        clear hgn
        go_wp2_with fail
        go_quiet (first | (go_at_call 107; exact Calls.quiet_of_same ((L1 _).out.mono fun _ _ h => ⟨h.1, h.2.symm⟩)) | (go_at_call 239; exact Calls.quiet_of_same ((L2 _).out.mono fun _ _ h => ⟨h.1, h.2.symm⟩)))
        go_wp2
        go_meet
        exact ⟨by rw [H2.out], below_drewN (Below.refl _ _) _⟩
  case rest =>
    obtain ⟨rfl, hx1⟩ := hcut
    cases h1 : (inB 1 op 8 && decide (a.length = argN op))
    · have HN := Lib.hid (show res = false by rw [HF.out, h1]; rfl)
      clear h1
      rw [Bool.not_false]
      have hbz := hb.trans (hx1.mono (Nat.le_of_lt hlt))
      go_wp2
      go_ret
      exact ⟨by rw [HN.out]; rfl, hbz⟩
    have H1 := Lib.hid h1
    have HLN := Lib.hid (show a.length = argN op by rw [Bool.and_eq_true] at h1; exact of_decide_eq_true h1.2)
    clear h1
    rw [Bool.not_true]
    obtain ⟨wb, rfl⟩ : ∃ wb : World, wb = wc := ⟨_, rfl⟩
    replace c0 := (hx1.cell (p := ⟨w.heap.size, 0, none⟩) hlt).trans c0
    replace c1 := (hx1.cell (p := ⟨w.heap.size, 1, none⟩) hlt).trans c1
    replace c2 := (hx1.cell (p := ⟨w.heap.size, 2, none⟩) hlt).trans c2
    replace c3 := (hx1.cell (p := ⟨w.heap.size, 3, none⟩) hlt).trans c3
    replace c4 := (hx1.cell (p := ⟨w.heap.size, 4, none⟩) hlt).trans c4
    replace hb := hb.trans (hx1.mono (Nat.le_of_lt hlt))
    replace hlt := Nat.lt_of_lt_of_le hlt hx1.size
    clear hx1
    go_upto_region 3 with (fail)
    obtain ⟨nb, hnb⟩ : ∃ nb : Bool, nb = (op == 1 || op == 2) := ⟨_, rfl⟩
    have HNB := Lib.hid hnb
    clear hnb
    go_cut [5] (fun v wx => v = .bool nb ∧ wx = wb)
    case first =>
      clear R1 CB CE c1 c2 c3 c4 H1 HLN
      by_cases h1 : op = 1
      · have b1 := beq_yes h1
        clear h1
        go_wp2
        go_meet
        exact ⟨by rw [HNB.out, b1]; rfl, rfl⟩
      · have b1 := beq_no h1
        clear h1
        go_wp2
        go_meet
        exact ⟨by rw [HNB.out, b1]; rfl, rfl⟩
    case rest =>
     obtain ⟨rfl, rfl⟩ := hcut
     obtain ⟨wb, rfl⟩ : ∃ wb : World, wb = wc := ⟨_, rfl⟩
     go_upto_region 4 with (fail)
     go_cut [45] (fun v wx => v = .bool (!nameFit op s) ∧ Below wb.heap.size wb wx)
     case first =>
      have CN := fun W => Lib.hid (specIsName_any s W (by unfold maxLen; omega))
      clear R1 CB CE c2 c3 c4 H1 HLN
      cases nb
      rotate_left
      · have HQ := Lib.hid (show nameFit op s = nameB s from if_pos (by have h := HNB.out; simpa using h.symm))
        clear HNB
        cases hB : nameB s
        · rw [hB] at CN HQ
          clear hB
          go_wp2_with fail
          refine Calls.mono (CN _).out ?_
          rintro ee w1 ⟨rfl, hbx⟩
          go_wp2
          go_meet
          exact ⟨by rw [HQ.out]; rfl, hbx⟩
        · rw [hB] at CN HQ
          clear hB
          go_wp2_with fail
          refine Calls.mono (CN _).out ?_
          rintro ee w1 ⟨rfl, hbx⟩
          go_wp2
          go_meet
          exact ⟨by rw [HQ.out]; rfl, hbx⟩
      have HQ := Lib.hid (show nameFit op s = decide (s.size = 0) from if_neg (by have h := HNB.out; simpa using h.symm))
      clear HNB
      cases hB : nameB s
      · rw [hB] at CN
        clear hB
        by_cases he : s = ⟨#[]⟩
        · subst he
          have HQ2 := Lib.hid (HQ.out.trans (show decide ((⟨#[]⟩ : ByteArray).size = 0) = true from rfl))
          clear HQ
          go_wp2_with fail
          refine Calls.mono (CN _).out ?_
          rintro ee w1 ⟨rfl, hbx⟩
          have g1 := (hbx.cell (p := ⟨w.heap.size, 1, none⟩) hlt).trans c1
          go_wp2
          go_meet
          exact ⟨by rw [HQ2.out]; rfl, hbx⟩
        · obtain ⟨e1, e2⟩ := full_str he
          have HQ2 := Lib.hid (HQ.out.trans (show decide (s.size = 0) = false from decide_eq_false (fun h => he (by
            obtain ⟨d⟩ := s
            have : d = #[] := Array.eq_empty_of_size_eq_zero h
            rw [this]))))
          clear HQ he
          go_wp2_with fail
          refine Calls.mono (CN _).out ?_
          rintro ee w1 ⟨rfl, hbx⟩
          have g1 := (hbx.cell (p := ⟨w.heap.size, 1, none⟩) hlt).trans c1
          go_wp2
          go_meet
          exact ⟨by rw [HQ2.out]; rfl, hbx⟩
      · rw [hB] at CN
        have HQ2 := Lib.hid (HQ.out.trans (show decide (s.size = 0) = false from decide_eq_false (fun h => by rw [nameB_empty h] at hB; cases hB)))
        clear hB HQ
        go_wp2_with fail
        refine Calls.mono (CN _).out ?_
        rintro ee w1 ⟨rfl, hbx⟩
        go_wp2
        go_meet
        exact ⟨by rw [HQ2.out]; rfl, hbx⟩
     case rest =>
      obtain ⟨rfl, hbx⟩ := hcut
      cases hq : nameFit op s
      · have HN := Lib.hid (show res = false by rw [HF.out, H1.out, hq]; rfl)
        clear hq
        rw [Bool.not_false]
        have hbz := hb.trans (hbx.mono (Nat.le_of_lt hlt))
        go_wp2
        go_ret
        exact ⟨by rw [HN.out]; rfl, hbz⟩
      have H2 := Lib.hid hq
      clear hq
      rw [Bool.not_true]
      go_wp2
      go_loopw [6] (fun i wr => ∃ k : Nat, k ≤ a.length ∧ i = .int .i64 k ∧ allTo validE a k ∧ Below wb.heap.size wb wr) (fun i _ => a.length - (intOf i).toNat)
      case atStart => exact ⟨0, Nat.zero_le _, rfl, allTo_zero _ _, hbx⟩
      case round =>
        clear hbx
        obtain ⟨k, hk, rfl, hall, hbr⟩ := hrel
        have HKT := Lib.hid hall
        have g2 := (hbr.cell (p := ⟨w.heap.size, 2, none⟩) hlt).trans c2
        have hbw := hb.trans (hbr.mono (Nat.le_of_lt hlt))
        have hbs := hbw.size
        clear hall
        by_cases hlk : k < a.length
        · obtain ⟨b, o, rfl, hB, ⟨d0, d1, d2⟩, A', cap', d3, hr'⟩ := (R1 _ hbw).out.at_ hlk
          have hsz : bulkE a[k] ≤ 1048576 := by have := bulkL_mem (List.getElem_mem hlk); have := HBK.out; omega
          have CV := specExprValid_any a[k] A' cap' wr hr' hsz
          unfold exV at CV
          clear hr' hsz R1 CB CE
          generalize hkd : a[k] = kid at *
          have HKD := Lib.hid hkd
          clear hkd
          cases hv : validE kid
          · rw [hv] at CV
            have HN := Lib.hid (show res = false by rw [HF.out, H1.out, H2.out, all_bad (p := validE) hlk (by rw [HKD.out]; exact hv)]; rfl)
            clear hv
            replace CV := Lib.hid CV
            go_wp2_with ((go_at_call 30; (with_reducible refine Calls.mono CV.out ?_); rintro ee w2 ⟨rfl, hb2⟩; have hb3 := hbw.trans (hb2.mono hbs)))
            go_ret
            exact ⟨by rw [HN.out]; rfl, hb3⟩
          · rw [hv] at CV
            have HN := Lib.hid (allTo_succ HKT.out hlk (by rw [HKD.out]; exact hv))
            clear hv
            replace CV := Lib.hid CV
            go_wp2_with ((go_at_call 30; (with_reducible refine Calls.mono CV.out ?_); rintro ee w2 ⟨rfl, hb2⟩; have hb3 := hbr.trans (hb2.mono hbr.size)))
            go_roundw
            case rel => exact ⟨k + 1, by omega, by go_num, HN.out, hb3⟩
            case measure => simp only [intOf]; omega
        · obtain rfl : k = a.length := by omega
          have H3 := Lib.hid (all_of HKT.out)
          replace c0 := (hbr.cell (p := ⟨w.heap.size, 0, none⟩) hlt).trans c0
          replace c3 := (hbr.cell (p := ⟨w.heap.size, 3, none⟩) hlt).trans c3
          replace c4 := (hbr.cell (p := ⟨w.heap.size, 4, none⟩) hlt).trans c4
          have hltr := Nat.lt_of_lt_of_le hlt hbr.size
          clear c1 c2 hbr HKT hb hlt hk hlk
          obtain ⟨wd, rfl⟩ : ∃ wd : World, wd = wr := ⟨_, rfl⟩
          go_upto_region 11 with (fail)
          go_cut [70] (fun v wx => v = .bool (!callFit op a) ∧ wx = wd)
          case first =>
            by_cases h8 : op = 8
            · have b8 := beq_yes h8
              have hl1 : a.length = 1 := by rw [HLN.out, h8]; rfl
              obtain ⟨b, o, rfl, hB, ⟨d0, _⟩, _⟩ := (R1 _ hbw).out.at_ (i := 0) (by omega)
              rw [Nat.zero_mul, Nat.add_zero] at d0
              have HQ := Lib.hid (show callFit op a = decide (a[0].op = 13) by
                unfold callFit
                rw [h8]
                obtain ⟨x, rfl⟩ : ∃ x, a = [x] := List.length_eq_one_iff.1 hl1
                simp)
              clear R1 CB CE c3 c4 HF H1 H2 H3 HLN
              have hl2 : ((a.length : Int)) = 1 := by omega
              generalize a[0].op = q at *
              by_cases h13 : q = 13
              · have b13 := beq_yes h13
                have b14 : (q != 13) = false := by rw [bne, b13]; rfl
                rw [decide_eq_true h13] at HQ
                clear h13 h8
                go_wp2
                go_meet
                exact ⟨by rw [HQ.out]; rfl, rfl⟩
              · have b13 := beq_no h13
                have b14 : (q != 13) = true := by rw [bne, b13]; rfl
                rw [decide_eq_false h13] at HQ
                clear h13 h8
                go_wp2
                go_meet
                exact ⟨by rw [HQ.out]; rfl, rfl⟩
            · have b8 := beq_no h8
              have HQ := Lib.hid (show callFit op a = true by unfold callFit; rw [decide_eq_true h8]; rfl)
              clear R1 CB CE c3 c4 HF H1 H2 H3 HLN h8
              go_wp2
              go_meet
              exact ⟨by rw [HQ.out]; rfl, rfl⟩
          case rest =>
            obtain ⟨rfl, rfl⟩ := hcut
            cases h4 : callFit op a
            · have HN := Lib.hid (show res = false by rw [HF.out, H1.out, H2.out, H3.out, h4]; rfl)
              clear h4
              rw [Bool.not_false]
              go_wp2
              go_ret
              exact ⟨by rw [HN.out]; rfl, hbw⟩
            have H4 := Lib.hid h4
            clear h4
            rw [Bool.not_true]
            obtain ⟨we, rfl⟩ : ∃ we : World, we = wc := ⟨_, rfl⟩
            go_upto_region 13 with (fail)
            go_cut [95] (fun v wx => v = .bool (!(bodyFit op bd.length && elseFit op el.length)) ∧ wx = we)
            case first =>
              clear R1 CB CE HF H1 H2 H3 H4 HLN
              have HQ := Lib.hid (show (bodyFit op bd.length && elseFit op el.length) = (decide (bd.length = 0 ∨ op = 5 ∨ op = 6) && decide (el.length = 0 ∨ op = 5)) from rfl)
              generalize bd.length = nb at *
              generalize el.length = ne at *
              by_cases h5 : op = 5
              · have b5 := beq_yes h5
                have b55 : (op != 5) = false := by rw [bne, b5]; rfl
                have HQ2 := Lib.hid (show (bodyFit op nb && elseFit op ne) = true by rw [HQ.out, decide_eq_true (.inr (.inl h5)), decide_eq_true (.inr h5)]; rfl)
                clear h5 HQ
                by_cases hne : 0 < (ne : Int)
                · by_cases hnb : 0 < (nb : Int)
                  · go_wp2
                    go_meet
                    exact ⟨by rw [HQ2.out]; rfl, rfl⟩
                  · go_wp2
                    go_meet
                    exact ⟨by rw [HQ2.out]; rfl, rfl⟩
                · by_cases hnb : 0 < (nb : Int)
                  · go_wp2
                    go_meet
                    exact ⟨by rw [HQ2.out]; rfl, rfl⟩
                  · go_wp2
                    go_meet
                    exact ⟨by rw [HQ2.out]; rfl, rfl⟩
              · have b5 := beq_no h5
                have b55 : (op != 5) = true := by rw [bne, b5]; rfl
                by_cases hne : 0 < (ne : Int)
                · have HQ2 := Lib.hid (show (bodyFit op nb && elseFit op ne) = false by rw [HQ.out, decide_eq_false (p := ne = 0 ∨ op = 5) (by omega), Bool.and_false])
                  clear h5 HQ
                  go_wp2
                  go_meet
                  exact ⟨by rw [HQ2.out]; rfl, rfl⟩
                · by_cases hnb : 0 < (nb : Int)
                  · by_cases h6 : op = 6
                    · have b6 := beq_yes h6
                      have b66 : (op != 6) = false := by rw [bne, b6]; rfl
                      have HQ2 := Lib.hid (show (bodyFit op nb && elseFit op ne) = true by rw [HQ.out, decide_eq_true (p := nb = 0 ∨ op = 5 ∨ op = 6) (by omega), decide_eq_true (p := ne = 0 ∨ op = 5) (by omega)]; rfl)
                      clear h5 h6 HQ
                      go_wp2
                      go_meet
                      exact ⟨by rw [HQ2.out]; rfl, rfl⟩
                    · have b6 := beq_no h6
                      have b66 : (op != 6) = true := by rw [bne, b6]; rfl
                      have HQ2 := Lib.hid (show (bodyFit op nb && elseFit op ne) = false by rw [HQ.out, decide_eq_false (p := nb = 0 ∨ op = 5 ∨ op = 6) (by omega), Bool.false_and])
                      clear h5 h6 HQ
                      go_wp2
                      go_meet
                      exact ⟨by rw [HQ2.out]; rfl, rfl⟩
                  · have HQ2 := Lib.hid (show (bodyFit op nb && elseFit op ne) = true by rw [HQ.out, decide_eq_true (p := nb = 0 ∨ op = 5 ∨ op = 6) (by omega), decide_eq_true (p := ne = 0 ∨ op = 5) (by omega)]; rfl)
                    clear h5 HQ
                    go_wp2
                    go_meet
                    exact ⟨by rw [HQ2.out]; rfl, rfl⟩
            case rest =>
              obtain ⟨rfl, rfl⟩ := hcut
              cases h5 : (bodyFit op bd.length && elseFit op el.length)
              · have HN := Lib.hid (show res = false by rw [HF.out, H1.out, H2.out, H3.out, H4.out, h5]; rfl)
                clear h5
                rw [Bool.not_false]
                go_wp2
                go_ret
                exact ⟨by rw [HN.out]; rfl, hbw⟩
              have H5 := Lib.hid h5
              clear h5
              rw [Bool.not_true]
              have CB1 := (CB _ hbw).out
              cases h6 : bd.all (formT d)
              · have HN := Lib.hid (show res = false by rw [HF.out, H1.out, H2.out, H3.out, H4.out, H5.out, h6]; rfl)
                rw [h6] at CB1
                replace CB1 := Lib.hid CB1
                clear h6 CB CE R1
                go_wp2_with ((go_at_call 166; (with_reducible refine Calls.mono CB1.out ?_); rintro ee w2 ⟨rfl, hb2⟩; have hb3 := hbw.trans (hb2.mono hbs)))
                go_ret
                exact ⟨by rw [HN.out]; rfl, hb3⟩
              · have HN := Lib.hid (show res = el.all (formT d) by rw [HF.out, H1.out, H2.out, H3.out, H4.out, H5.out, h6]; rfl)
                rw [h6] at CB1
                replace CB1 := Lib.hid CB1
                clear h6 CB R1
                generalize el.all (formT d) = ea at *
                go_wp2_with fail
                (with_reducible refine Calls.mono CB1.out ?_)
                rintro ee w2 ⟨rfl, hb2⟩
                have hb3 := hbw.trans (hb2.mono hbs)
                have k4 := (hb2.cell (p := ⟨w.heap.size, 4, none⟩) hltr).trans c4
                have CE1 := Lib.hid (CE _ hb3).out
                clear CE
                cases ea
                all_goals
                  go_wp2_with fail
                  (with_reducible refine Calls.mono CE1.out ?_)
                  rintro ee w4 ⟨rfl, hb4⟩
                  have hb5 := hb3.trans (hb4.mono hb3.size)
                  go_wp2_with fail
                  go_ret
                  exact ⟨by rw [HN.out]; rfl, hb5⟩
end Go.Proofs.YtljdbjfbcjigaaaGreatDoor

namespace Go.Proofs.YtljdbjfbcjigaaaGreatDoor
open Go.RowKit
set_option maxRecDepth 100000

set_option maxHeartbeats 1000000 in
theorem szStringS_any (ks : List ByteArray) (hs : ∀ s ∈ ks, s.size ≤ maxLen) (hl : ks.length ≤ maxLen) (A : Option Addr) (cap : Nat) (w : World) (left : Int) (hR : StrS w (Lt w.heap.size) ks A) (h0 : 0 ≤ left) (h1 : left ≤ 1048576) :
    Calls Tryz.prog 134 #[.slice A ks.length cap, .int .i64 left] w (IntB (szR left (bulkS ks)) w) := by
  unfold maxLen at hl
  have HS := Lib.hid hs
  have HR := Lib.hid hR
  clear hR hs
  by_cases hneg : left < ks.length
  · have HN := Lib.hid hneg
    have hneg' : left - ks.length < 0 := by omega
    go_enter Tryz.func134, Tryz.ntmps134
    go_wp2_with fail
    go_ret
    exact ⟨ret_int' (by unfold szR; have h1 := length_le_bulkS ks; rw [if_pos (by have := HN.out; omega)]), Below.refl _ _⟩
  · have hge : (ks.length : Int) ≤ left := by omega
    clear hneg
    go_enter Tryz.func134, Tryz.ntmps134
    go_wp2_with fail
    go_loopw [1, 5] (fun v i wr => ∃ (k : Nat) (r : Int), k ≤ ks.length ∧ i = .int .i64 k ∧ v = .int .i64 r ∧ 0 ≤ r ∧ r ≤ 1048576 ∧ r + bulkS (ks.take k) = left - ks.length + k ∧ Below w.heap.size w wr) (fun _ i _ => ks.length - (intOf i).toNat)
    case atStart => exact ⟨0, _, Nat.zero_le _, rfl, rfl, by omega, by omega, by rw [List.take_zero]; show _ + ((0 : Nat) : Int) = _; omega, Below.refl _ _⟩
    case round =>
      obtain ⟨k, r, hk, rfl, rfl, hr0, hr1, hre, hb⟩ := hrel
      have HE := Lib.hid hre
      clear hre
      have hbs := hb.size
      by_cases hlt : k < ks.length
      · have HT := Lib.hid (bulkS_take hlt)
        have HQ := Lib.hid (bulkS_rest ks (k + 1))
        obtain ⟨b, o, rfl, hB, d0⟩ := (HR.out.on hb hbs).at_ hlt
        have hsz := HS.out _ (List.getElem_mem hlt)
        unfold maxLen at hsz
        generalize hkd : ks[k] = kid at *
        have HKD := Lib.hid hkd
        clear hkd
        by_cases hlb : r < kid.size
        · have HL := Lib.hid hlb
          have hneg : r - kid.size < 0 := by omega
          clear hlb
          go_wp2_with fail
          go_ret
          exact ⟨ret_int' (by unfold szR; rw [if_pos (by have := HL.out; have := HT.out; have := HQ.out; have := HE.out; omega)]), hb⟩
        · have hge2 : (kid.size : Int) ≤ r := by omega
          clear hlb
          go_wp2_with fail
          go_roundw
          case rel => exact ⟨k + 1, r - kid.size, by omega, by go_num, rfl, by omega, by omega, by rw [HT.out]; have := HE.out; omega, hb⟩
          case measure => simp only [intOf]; omega
      · obtain rfl : k = ks.length := by omega
        have e2 : ks.take ks.length = ks := List.take_length
        go_wp2
        go_ret
        exact ⟨ret_int' (by unfold szR; have h3 := HE.out; rw [e2] at h3; rw [if_neg (by omega)]; omega), hb⟩
set_option maxHeartbeats 1000000 in
theorem szFn_any (f : Fu) (hm : SmF f) (v : Value) (w : World) (left : Int) (hV : FuV w (Lt w.heap.size) f v) (h0 : 0 ≤ left) (h1 : left ≤ 1048576) :
    Calls Tryz.prog 83 #[v, .int .i64 left] w (IntB (szR left (bulkF f)) w) := by
  obtain ⟨A1, p1, A2, p2, rfl, r1, r2⟩ := hV
  obtain ⟨hs, m1, m2, m3, m4⟩ := hm
  obtain ⟨s, a, bd⟩ := f
  dsimp only at *
  have HK := Lib.hid (show bulkF ⟨s, a, bd⟩ = s.size + bulkS a + bulkTL bd from rfl)
  generalize bulkF ⟨s, a, bd⟩ = bk at *
  obtain ⟨c0, c1, c2, hlt, hb⟩ : (w.alloc (.cells #[.string s, .slice A1 a.length p1, .slice A2 bd.length p2] 113)).cell? ⟨w.heap.size, 0, none⟩ = some (.string s) ∧ (w.alloc (.cells #[.string s, .slice A1 a.length p1, .slice A2 bd.length p2] 113)).cell? ⟨w.heap.size, 1, none⟩ = some (.slice A1 a.length p1) ∧ (w.alloc (.cells #[.string s, .slice A1 a.length p1, .slice A2 bd.length p2] 113)).cell? ⟨w.heap.size, 2, none⟩ = some (.slice A2 bd.length p2) ∧ w.heap.size < (w.alloc (.cells #[.string s, .slice A1 a.length p1, .slice A2 bd.length p2] 113)).heap.size ∧ Below w.heap.size w (w.alloc (.cells #[.string s, .slice A1 a.length p1, .slice A2 bd.length p2] 113)) :=
    ⟨alloc_cell w _ _ _ 0, alloc_cell w _ _ _ 1, alloc_cell w _ _ _ 2, by rw [World.size_alloc]; omega, (Below.refl _ _).alloc (Nat.le_refl _) _⟩
  have CA := fun W hh r h0 h1 => Lib.hid (szStringS_any a m1 m2 A1 p1 W r (r1.on (w' := W) (B' := W.heap.size) hh hh.size) h0 h1)
  have CB := fun W hh r h0 h1 => Lib.hid (szStmtS_any bd m4 m3 A2 p2 W r (r2.on (w' := W) (B' := W.heap.size) hh hh.size) h0 h1)
  clear r1 r2 c0 m1 m2 m3 m4
  unfold maxLen at hs
  generalize bulkS a = b1 at *
  generalize bulkTL bd = b2 at *
  by_cases hneg : left < s.size
  · have HN := Lib.hid hneg
    have hneg' : left - s.size < 0 := by omega
    clear CA CB
    go_enter Tryz.func83, Tryz.ntmps83
    go_wp2_with fail
    go_ret
    exact ⟨ret_int' (by rw [HK.out, szR_lt (by have := HN.out; omega)]), hb⟩
  have hge : (s.size : Int) ≤ left := by omega
  clear hneg
  replace CA := CA _ hb (left - s.size) (by omega) (by omega)
  by_cases ha : left - s.size < b1
  · rw [szR_lt ha] at CA
    have HN := Lib.hid ha
    clear CB ha
    go_enter Tryz.func83, Tryz.ntmps83
    go_wp2_with ((go_at_call 134; (with_reducible refine Calls.mono CA.out ?_); rintro ee w1 ⟨rfl, hb1⟩; have hb2 := hb.trans (hb1.mono (Nat.le_of_lt hlt))))
    go_ret
    exact ⟨ret_int' (by rw [HK.out, szR_lt (by have := HN.out; omega)]), hb2⟩
  rw [szR_ge ha] at CA
  have ha' : (0 : Int) ≤ left - s.size - b1 := by omega
  clear ha
  have CB2 := fun W hh => Lib.hid (CB W hh (left - s.size - b1) (by omega) (by omega)).out
  clear CB
  have HR := Lib.hid (show szR (left - s.size - b1) b2 = szR left bk by rw [HK.out]; unfold szR; by_cases h' : left - s.size - b1 < b2
                                                                        · rw [if_pos h', if_pos (by omega)]
                                                                        · rw [if_neg h', if_neg (by omega)]; omega)
  by_cases he : left - s.size - b1 < b2
  · have e1 : szR (left - s.size - b1) b2 = -1 := szR_lt he
    have HR2 := Lib.hid (HR.out.symm.trans e1)
    rw [e1] at CB2
    clear HR e1 he
    go_enter Tryz.func83, Tryz.ntmps83
    go_wp2_with fail
    (with_reducible refine Calls.mono CA.out ?_)
    rintro ee w1 ⟨rfl, hb1⟩
    have hb2 := hb.trans (hb1.mono (Nat.le_of_lt hlt))
    have g2 := (hb1.cell (p := ⟨w.heap.size, 2, none⟩) hlt).trans c2
    go_wp2_with fail
    (with_reducible refine Calls.mono (CB2 _ hb2).out ?_)
    rintro ee w2 ⟨rfl, hb3⟩
    have hb4 := hb2.trans (hb3.mono hb2.size)
    go_wp2_with fail
    go_ret
    exact ⟨ret_int' HR2.out.symm, hb4⟩
  · have e1 : szR (left - s.size - b1) b2 = left - s.size - b1 - b2 := szR_ge he
    have HR2 := Lib.hid (HR.out.symm.trans e1)
    have he' : (0 : Int) ≤ left - s.size - b1 - b2 := by omega
    rw [e1] at CB2
    clear HR e1 he
    go_enter Tryz.func83, Tryz.ntmps83
    go_wp2_with fail
    (with_reducible refine Calls.mono CA.out ?_)
    rintro ee w1 ⟨rfl, hb1⟩
    have hb2 := hb.trans (hb1.mono (Nat.le_of_lt hlt))
    have g2 := (hb1.cell (p := ⟨w.heap.size, 2, none⟩) hlt).trans c2
    go_wp2_with fail
    (with_reducible refine Calls.mono (CB2 _ hb2).out ?_)
    rintro ee w2 ⟨rfl, hb3⟩
    have hb4 := hb2.trans (hb3.mono hb2.size)
    go_wp2_with fail
    go_ret
    exact ⟨ret_int' HR2.out.symm, hb4⟩
set_option maxHeartbeats 1000000 in
theorem szFnS_any (ks : List Fu) (hm : ∀ f ∈ ks, SmF f) (hl : ks.length ≤ maxLen) (A : Option Addr) (cap : Nat) (w : World) (left : Int) (hR : FuS w (Lt w.heap.size) ks A) (h0 : 0 ≤ left) (h1 : left ≤ 1048576) :
    Calls Tryz.prog 42 #[.slice A ks.length cap, .int .i64 left] w (IntB (szR left (bulkFL ks)) w) := by
  unfold maxLen at hl
  have HK := Lib.hid fun i (h : i < ks.length) => szFn_any _ (hm _ (List.getElem_mem h))
  have HR := Lib.hid hR
  clear hR hm
  by_cases hneg : left < ks.length
  · have HN := Lib.hid hneg
    have hneg' : left - ks.length < 0 := by omega
    go_enter Tryz.func42, Tryz.ntmps42
    go_wp2_with fail
    go_ret
    exact ⟨ret_int' (by unfold szR; have h1 := length_le_bulkFL ks; rw [if_pos (by have := HN.out; omega)]), Below.refl _ _⟩
  · have hge : (ks.length : Int) ≤ left := by omega
    clear hneg
    go_enter Tryz.func42, Tryz.ntmps42
    go_wp2_with fail
    go_loopw [1, 5] (fun v i wr => ∃ (k : Nat) (r : Int), k ≤ ks.length ∧ i = .int .i64 k ∧ v = .int .i64 r ∧ 0 ≤ r ∧ r ≤ 1048576 ∧ r + bulkFL (ks.take k) = left - ks.length + k ∧ Below w.heap.size w wr) (fun _ i _ => ks.length - (intOf i).toNat)
    case atStart => exact ⟨0, _, Nat.zero_le _, rfl, rfl, by omega, by omega, by rw [List.take_zero]; show _ + ((0 : Nat) : Int) = _; omega, Below.refl _ _⟩
    case round =>
      obtain ⟨k, r, hk, rfl, rfl, hr0, hr1, hre, hb⟩ := hrel
      have HE := Lib.hid hre
      clear hre
      have hbs := hb.size
      by_cases hlt : k < ks.length
      · have HT := Lib.hid (bulkFL_take hlt)
        have HQ := Lib.hid (bulkFL_rest ks (k + 1))
        obtain ⟨b, o, rfl, hB, d0, ⟨A1, p1, d1, r1⟩, A2, p2, d2, r2⟩ := (HR.out.on hb hbs).at_ hlt
        have CK := HK.out k hlt _ wr r ⟨A1, p1, A2, p2, rfl, r1, r2⟩ hr0 hr1
        clear r1 r2
        generalize hkd : ks[k] = kid at *
        have HKD := Lib.hid hkd
        clear hkd
        obtain ⟨s', a', b'⟩ := kid
        dsimp only at d0 d1 d2 CK
        generalize bulkF ⟨s', a', b'⟩ = bk at *
        by_cases hlb : r < bk
        · have e1 : szR r bk = -1 := if_pos hlb
          rw [e1] at CK
          have HL := Lib.hid hlb
          replace CK := Lib.hid CK
          clear e1 hlb
          go_wp2_with ((go_at_call 83; (with_reducible refine Calls.mono CK.out ?_); rintro ee w2 ⟨rfl, hb2⟩; have hb3 := hb.trans (hb2.mono hbs)))
          go_ret
          exact ⟨ret_int' (by unfold szR; rw [if_pos (by have := HL.out; have := HT.out; have := HQ.out; have := HE.out; omega)]), hb3⟩
        · have e1 : szR r bk = r - bk := if_neg hlb
          rw [e1] at CK
          have hge2 : (0 : Int) ≤ r - bk := by omega
          replace CK := Lib.hid CK
          clear e1 hlb
          go_wp2_with ((go_at_call 83; (with_reducible refine Calls.mono CK.out ?_); rintro ee w2 ⟨rfl, hb2⟩; have hb3 := hb.trans (hb2.mono hbs)))
          go_roundw
          case rel => exact ⟨k + 1, r - bk, by omega, by go_num, rfl, by omega, by omega, by rw [HT.out]; have := HE.out; omega, hb3⟩
          case measure => simp only [intOf]; omega
      · obtain rfl : k = ks.length := by omega
        have e2 : ks.take ks.length = ks := List.take_length
        go_wp2
        go_ret
        exact ⟨ret_int' (by unfold szR; have h3 := HE.out; rw [e2] at h3; rw [if_neg (by omega)]; omega), hb⟩
set_option maxHeartbeats 1000000 in
theorem szProgram_any (p : List Fu) (hm : SmP p) (v : Value) (w : World) (hV : PrV w (Lt w.heap.size) p v) :
    Calls Tryz.prog 15 #[v, .int .i64 1048576] w (IntB (szR 1048576 (bulkFL p)) w) := by
  obtain ⟨A, c, rfl, hR⟩ := hV
  have hb : Below w.heap.size w (w.alloc (.cells #[.slice A p.length c] 37)) := (Below.refl _ _).alloc (Nat.le_refl _) _
  have hbs := hb.size
  have CS := Lib.hid (szFnS_any p hm.2 hm.1 A c _ 1048576 (hR.on hb hb.size) (by omega) (by omega))
  clear hR
  by_cases he : 1048576 < bulkFL p
  · rw [szR_no he] at CS ⊢
    clear he hm
    go_enter Tryz.func15, Tryz.ntmps15
    go_wp2_with fail
    (with_reducible refine Calls.mono CS.out ?_)
    rintro ee w1 ⟨rfl, hb1⟩
    have hb2 := hb.trans (hb1.mono hbs)
    go_wp2_with fail
    go_ret
    exact ⟨rfl, hb2⟩
  · rw [szR_yes he] at CS ⊢
    have he' : (0 : Int) ≤ 1048576 - bulkFL p := by omega
    clear he hm
    generalize bulkFL p = bk at *
    go_enter Tryz.func15, Tryz.ntmps15
    go_wp2_with fail
    (with_reducible refine Calls.mono CS.out ?_)
    rintro ee w1 ⟨rfl, hb1⟩
    have hb2 := hb.trans (hb1.mono hbs)
    go_wp2_with fail
    go_ret
    exact ⟨rfl, hb2⟩
end Go.Proofs.YtljdbjfbcjigaaaGreatDoor
