/-
  What the model asks of an instruction.
-/
import Derived.Test.YtomhomnibikceaaDoorNL
import Derived.Test.YtomhomnibikceaaDoorNJ
import Derived.BigQuiet
namespace Go.Proofs.YtomhomnibikceaaDoor
open Go.RowKit
set_option maxRecDepth 100000

set_option maxHeartbeats 8000000 in
theorem l7Ins_any (cs : List Cd) (A : Option Addr) (cap k : Nat) (hk : k < cs.length) (x : Ik) (v : Value) (w : World) (hV : IkV w (Lt w.heap.size) x v) (hR : CdS w (Lt w.heap.size) cs A) (hbk : bulkIk x ≤ 1048576) (hln : cs.length ≤ 1048576) (hg0 : 0 ≤ cs[k].regs) (hg1 : cs[k].regs ≤ 300) :
    Calls Tryd.prog 65 #[.agg #[.slice A cs.length cap], .int .i64 k, v] w (BoolB (insB cs k cs[k] x) w) := by
  obtain ⟨A2, c2, rfl, r2⟩ := hV
  have hal : x.args.length ≤ 1048576 := hbk
  clear hbk
  obtain ⟨op, to, args, n⟩ := x
  dsimp only at *
  obtain ⟨b0, o0, hA, hB0, d0, d1, A3, c3, d2, _⟩ := hR.at_ hk
  have HC := Lib.hid (show ∀ (c : Cd), c = cs[k] → ∀ W, Below w.heap.size w W → Hid (Calls Tryd.prog 67 #[cdv c A3 c3, .slice A2 args.length c2] W (BoolB (regsB c args) W)) from fun c hc W h => Lib.hid (l7Regs_any c A3 c3 args hal A2 c2 W (r2.on h h.size) (by rw [hc]; exact hg0) (by rw [hc]; exact hg1)))
  have HPR := Lib.hid (show ∀ i, (h : i < cs.length) → ∀ W, Below w.heap.size w W → W.cell? ⟨b0, o0 + i * 3, none⟩ = some (.int .i64 cs[i].params) from fun i hi W h => by
    obtain ⟨b1, o1, e1, hB1, f0, _⟩ := hR.at_ hi
    rw [hA] at e1
    injection e1 with e1
    injection e1 with e1 e2
    subst e1; subst e2
    exact (h.cell (p := ⟨b0, o0 + i * 3, none⟩) hB1).trans f0)
  have HV := Lib.hid (show insB cs k cs[k] ⟨op, to, args, n⟩ = (decide (1 ≤ op ∧ op ≤ 14) && (decide (0 ≤ n ∧ n ≤ mostI k op) && ((if iMakes op then regB cs[k] to else decide (to = -1)) && (decide ((args.length : Int) = wantI cs ⟨op, to, args, n⟩) && regsB cs[k] args)))) from rfl)
  generalize insB cs k cs[k] ⟨op, to, args, n⟩ = res at *
  have HW0 := Lib.hid (show wantI cs ⟨op, to, args, n⟩ = if op = 14 then (match cs[n.toNat]? with | some c => c.params | none => 0) else iArgs op from rfl)
  generalize wantI cs ⟨op, to, args, n⟩ = want at *
  have HRB := Lib.hid (regB_in cs[k] to)
  have hcs0 : 0 ≤ cs[k].regs := hg0
  clear hR r2
  generalize hck : cs[k] = c at *
  replace HC := Lib.hid (HC.out c rfl)
  generalize regsB c args = za at *
  generalize hzt : regB c to = zt at *
  unfold cdv at HC
  obtain ⟨p, g, bs⟩ := c
  dsimp only at *
  have HT := Lib.hid (show to = -1 → zt = false from fun h => by rw [← hzt]; unfold regB; exact decide_eq_false (by omega))
  have HT2 := Lib.hid (show zt = true → ¬ to = -1 from fun h e => by rw [HT.out e] at h; cases h)
  clear hzt hck
  have hwr : IntKind.i64.wrap (g - 1) = g - 1 := IntWalk.i64_in _ ⟨by omega, by omega⟩
  have hwr2 : IntKind.i64.wrap ((k : Int) - 1) = (k : Int) - 1 := IntWalk.i64_in _ ⟨by omega, by omega⟩
  have LT := fun W => uIn_any to 0 (g - 1) W
  rw [← HRB.out] at LT
  replace LT := fun W => Lib.hid (LT W)
  have MK := fun W => Lib.hid (l7Makes_any op W)
  have LO := fun W => uIn_any op 1 14 W
  generalize hmk : iMakes op = mk at *
  have HMK := Lib.hid (show op = 14 → mk = true from fun h => by rw [← hmk, h]; rfl)
  clear hmk HRB hcs0 HT
  subst hA
  have e0 := hB0
  have sz1 : (w.alloc (.cells #[.slice (some ⟨b0, o0, none⟩) cs.length cap] 30)).heap.size = w.heap.size + 1 := World.size_alloc _ _
  have sz2 : ((w.alloc (.cells #[.slice (some ⟨b0, o0, none⟩) cs.length cap] 30)).alloc (.cells #[.int .i64 op, .int .i64 to, .slice A2 args.length c2, .int .i64 n] 62)).heap.size = w.heap.size + 1 + 1 := by rw [World.size_alloc, sz1]
  have hb2 := two_boxes w (.cells #[.slice (some ⟨b0, o0, none⟩) cs.length cap] 30) (.cells #[.int .i64 op, .int .i64 to, .slice A2 args.length c2, .int .i64 n] 62)
  have hb := hb2.alloc hb2.size (.cells #[.int .i64 p, .int .i64 g, .slice A3 bs.length c3] 44)
  have K0 := Lib.hid (((BoxV.new w [.slice (some ⟨b0, o0, none⟩) cs.length cap] 30).below ((Below.refl _ _).alloc (Nat.le_refl _) (.cells #[.int .i64 op, .int .i64 to, .slice A2 args.length c2, .int .i64 n] 62)) (by rw [World.size_alloc]; omega)).below ((Below.refl _ _).alloc (Nat.le_refl _) (.cells #[.int .i64 p, .int .i64 g, .slice A3 bs.length c3] 44)) (by rw [sz2]; omega))
  have X0 := BoxV.new (w.alloc (.cells #[.slice (some ⟨b0, o0, none⟩) cs.length cap] 30)) [.int .i64 op, .int .i64 to, .slice A2 args.length c2, .int .i64 n] 62
  rw [sz1] at X0
  replace X0 := Lib.hid (X0.below ((Below.refl _ _).alloc (Nat.le_refl _) (.cells #[.int .i64 p, .int .i64 g, .slice A3 bs.length c3] 44)) (by rw [sz2]; omega))
  have Y0 := BoxV.new ((w.alloc (.cells #[.slice (some ⟨b0, o0, none⟩) cs.length cap] 30)).alloc (.cells #[.int .i64 op, .int .i64 to, .slice A2 args.length c2, .int .i64 n] 62)) [.int .i64 p, .int .i64 g, .slice A3 bs.length c3] 44
  rw [sz2] at Y0
  replace Y0 := Lib.hid Y0
  have hy0 : w.heap.size + 1 + 1 < (((w.alloc (.cells #[.slice (some ⟨b0, o0, none⟩) cs.length cap] 30)).alloc (.cells #[.int .i64 op, .int .i64 to, .slice A2 args.length c2, .int .i64 n] 62)).alloc (.cells #[.int .i64 p, .int .i64 g, .slice A3 bs.length c3] 44)).heap.size := by rw [World.size_alloc, sz2]; omega
  have dd0 := (hb2.cell (p := ⟨b0, o0 + k * 3, none⟩) hB0).trans d0
  have dd1 := (hb2.cell (p := ⟨b0, o0 + k * 3 + 1, none⟩) hB0).trans d1
  have dd2 := (hb2.cell (p := ⟨b0, o0 + k * 3 + 2, none⟩) hB0).trans d2
  clear sz1 sz2 d0 d1 d2 e0

  by_cases ho : ¬ (1 ≤ op ∧ op ≤ 14)
  · have HW := Lib.hid (show res = false by rw [HV.out, decide_eq_false ho]; rfl)
    simp only [decide_eq_false ho] at LO
    replace LO := fun W => Lib.hid (LO W)
    clear HV HC HPR HW0 HT2 MK LT HMK ho
    go_enter Tryd.func65, Tryd.ntmps65
    go_wp2_with fail
    (with_reducible refine Calls.mono (LO _).out ?_)
    rintro ee w1 ⟨rfl, rfl⟩
    go_wp2_with fail
    go_ret
    exact ⟨ret_bool' (HW.out.symm), hb⟩
  replace ho : 1 ≤ op ∧ op ≤ 14 := by omega
  simp only [decide_eq_true ho] at LO
  replace LO := fun W => Lib.hid (LO W)
  rw [decide_eq_true ho, Bool.true_and] at HV
  cases za
  · have HW := Lib.hid (show res = false by rw [HV.out]; simp)
    clear HV HPR HW0 HT2 MK LT HMK
    go_enter Tryd.func65, Tryd.ntmps65
    go_wp2_with fail
    (with_reducible refine Calls.mono (LO _).out ?_)
    rintro ee w1 ⟨rfl, rfl⟩
    have x2 := X0.out 2 _ rfl
    have y0 := Y0.out 0 _ rfl
    have y1 := Y0.out 1 _ rfl
    have y2 := Y0.out 2 _ rfl
    go_wp2_with fail
    (with_reducible refine Calls.mono (HC.out _ hb).out ?_)
    rintro ee w4 ⟨rfl, hb4⟩
    have hb5 := hb.trans (hb4.mono hb.size)
    have K4 := Lib.hid (K0.out.below hb4 (by omega))
    have X4 := Lib.hid (X0.out.below hb4 (by omega))
    have Y4 := Lib.hid (Y0.out.below hb4 hy0)
    clear x2 y0 y1 y2
    go_wp2_with fail
    go_ret
    exact ⟨ret_bool' (HW.out.symm), hb5⟩
  rw [Bool.and_true] at HV
  cases mk
  · rw [if_neg (by simp)] at HV
    cases zt
    · by_cases ht : to = -1
      · rw [decide_eq_true ht, Bool.true_and] at HV
        have q1 := beq_yes ht
        have q2 : (to != -1) = false := by rw [bne, q1]; rfl
        have h14 : ¬ op = 14 := fun h => absurd (HMK.out h) (by simp)
        clear ht HMK HT2
        rw [if_neg h14] at HW0
        have hwant : iArgs op = want := HW0.out.symm
        have q14 := beq_no h14
        have LA := fun W => l7Args_any op (by omega) (by omega) W
        rw [hwant] at LA
        replace LA := fun W => Lib.hid (LA W)
        have LN := fun W => uIn_any n 0 255 W
        have hmo : mostI k op = if op = 1 then 255 else 0 := by unfold mostI; rw [if_neg h14]
        rw [hmo] at HV
        clear HW0 hmo HPR h14 hwant
        by_cases hl : (args.length : Int) = want
        · rw [decide_eq_true hl, Bool.and_true] at HV
          have e1 := beq_yes hl
          clear hl
          by_cases hn : ¬ (0 ≤ n ∧ n ≤ 255)
          · have HW := Lib.hid (show res = false by
              rw [HV.out]
              apply decide_eq_false
              split <;> omega)
            simp only [decide_eq_false hn] at LN
            replace LN := fun W => Lib.hid (LN W)
            clear HV hn
            go_enter Tryd.func65, Tryd.ntmps65
            go_wp2_with fail
            (with_reducible refine Calls.mono (LO _).out ?_)
            rintro ee w1 ⟨rfl, rfl⟩
            have x2 := X0.out 2 _ rfl
            have y0 := Y0.out 0 _ rfl
            have y1 := Y0.out 1 _ rfl
            have y2 := Y0.out 2 _ rfl
            go_wp2_with fail
            (with_reducible refine Calls.mono (HC.out _ hb).out ?_)
            rintro ee w4 ⟨rfl, hb4⟩
            have hb5 := hb.trans (hb4.mono hb.size)
            have K4 := Lib.hid (K0.out.below hb4 (by omega))
            have X4 := Lib.hid (X0.out.below hb4 (by omega))
            have Y4 := Lib.hid (Y0.out.below hb4 hy0)
            clear x2 y0 y1 y2
            have x0 := X4.out 0 _ rfl
            have x1 := X4.out 1 _ rfl
            have x2 := X4.out 2 _ rfl
            have x3 := X4.out 3 _ rfl
            have y1 := Y4.out 1 _ rfl
            have k0 := K4.out 0 _ rfl
            go_wp2_with fail
            go_quiet (first | (go_at_call 52; exact Calls.quiet_of_same ((MK _).out.mono fun _ _ h => ⟨h.1, h.2.symm⟩)) | (go_at_call 42; exact Calls.quiet_of_same ((LT _).out.mono fun _ _ h => ⟨h.1, h.2.symm⟩)))
            all_goals
              have hb6 := below_drewN hb5 nq
              go_wp2_with fail
              have X6 := Lib.hid (show BoxV (w4.drewN nq) _ _ from X4.out)
              have K6 := Lib.hid (show BoxV (w4.drewN nq) _ _ from K4.out)
              clear x0 x1 x2 x3 y1 k0
              generalize w4.drewN nq = wq at *
              have x0 := X6.out 0 _ rfl
              have x2 := X6.out 2 _ rfl
              have x3 := X6.out 3 _ rfl
              have k0 := K6.out 0 _ rfl
              go_quiet (first | (go_at_call 91; exact Calls.quiet_of_same ((LA _).out.mono fun _ _ h => ⟨h.1, h.2.symm⟩)) | (go_at_call 42; exact Calls.quiet_of_same ((LN _).out.mono fun _ _ h => ⟨h.1, h.2.symm⟩)))
              all_goals
                have hb7 := below_drewN hb6 nq
                go_wp2_with fail
                go_ret
                exact ⟨ret_bool' (HW.out.symm), hb7⟩
          · replace hn : 0 ≤ n ∧ n ≤ 255 := by omega
            simp only [decide_eq_true hn] at LN
            replace LN := fun W => Lib.hid (LN W)
            by_cases hn0 : n = 0
            · have HW := Lib.hid (show res = true by
                rw [HV.out]
                apply decide_eq_true
                split <;> omega)
              have e2 := beq_yes hn0
              clear HV hn hn0
              go_enter Tryd.func65, Tryd.ntmps65
              go_wp2_with fail
              (with_reducible refine Calls.mono (LO _).out ?_)
              rintro ee w1 ⟨rfl, rfl⟩
              have x2 := X0.out 2 _ rfl
              have y0 := Y0.out 0 _ rfl
              have y1 := Y0.out 1 _ rfl
              have y2 := Y0.out 2 _ rfl
              go_wp2_with fail
              (with_reducible refine Calls.mono (HC.out _ hb).out ?_)
              rintro ee w4 ⟨rfl, hb4⟩
              have hb5 := hb.trans (hb4.mono hb.size)
              have K4 := Lib.hid (K0.out.below hb4 (by omega))
              have X4 := Lib.hid (X0.out.below hb4 (by omega))
              have Y4 := Lib.hid (Y0.out.below hb4 hy0)
              clear x2 y0 y1 y2
              have x0 := X4.out 0 _ rfl
              have x1 := X4.out 1 _ rfl
              have x2 := X4.out 2 _ rfl
              have x3 := X4.out 3 _ rfl
              have y1 := Y4.out 1 _ rfl
              have k0 := K4.out 0 _ rfl
              go_wp2_with fail
              go_quiet (first | (go_at_call 52; exact Calls.quiet_of_same ((MK _).out.mono fun _ _ h => ⟨h.1, h.2.symm⟩)) | (go_at_call 42; exact Calls.quiet_of_same ((LT _).out.mono fun _ _ h => ⟨h.1, h.2.symm⟩)))
              all_goals
                have hb6 := below_drewN hb5 nq
                go_wp2_with fail
                have X6 := Lib.hid (show BoxV (w4.drewN nq) _ _ from X4.out)
                have K6 := Lib.hid (show BoxV (w4.drewN nq) _ _ from K4.out)
                clear x0 x1 x2 x3 y1 k0
                generalize w4.drewN nq = wq at *
                have x0 := X6.out 0 _ rfl
                have x2 := X6.out 2 _ rfl
                have x3 := X6.out 3 _ rfl
                have k0 := K6.out 0 _ rfl
                go_quiet (first | (go_at_call 91; exact Calls.quiet_of_same ((LA _).out.mono fun _ _ h => ⟨h.1, h.2.symm⟩)) | (go_at_call 42; exact Calls.quiet_of_same ((LN _).out.mono fun _ _ h => ⟨h.1, h.2.symm⟩)))
                all_goals
                  have hb7 := below_drewN hb6 nq
                  go_wp2_with fail
                  go_ret
                  exact ⟨ret_bool' (HW.out.symm), hb7⟩
            · have e2 := beq_no hn0
              by_cases h1 : op = 1
              · have HW := Lib.hid (show res = true by
                  rw [HV.out, if_pos h1]
                  exact decide_eq_true (by omega))
                have e3 := beq_yes h1
                clear HV hn hn0 h1
                go_enter Tryd.func65, Tryd.ntmps65
                go_wp2_with fail
                (with_reducible refine Calls.mono (LO _).out ?_)
                rintro ee w1 ⟨rfl, rfl⟩
                have x2 := X0.out 2 _ rfl
                have y0 := Y0.out 0 _ rfl
                have y1 := Y0.out 1 _ rfl
                have y2 := Y0.out 2 _ rfl
                go_wp2_with fail
                (with_reducible refine Calls.mono (HC.out _ hb).out ?_)
                rintro ee w4 ⟨rfl, hb4⟩
                have hb5 := hb.trans (hb4.mono hb.size)
                have K4 := Lib.hid (K0.out.below hb4 (by omega))
                have X4 := Lib.hid (X0.out.below hb4 (by omega))
                have Y4 := Lib.hid (Y0.out.below hb4 hy0)
                clear x2 y0 y1 y2
                have x0 := X4.out 0 _ rfl
                have x1 := X4.out 1 _ rfl
                have x2 := X4.out 2 _ rfl
                have x3 := X4.out 3 _ rfl
                have y1 := Y4.out 1 _ rfl
                have k0 := K4.out 0 _ rfl
                go_wp2_with fail
                go_quiet (first | (go_at_call 52; exact Calls.quiet_of_same ((MK _).out.mono fun _ _ h => ⟨h.1, h.2.symm⟩)) | (go_at_call 42; exact Calls.quiet_of_same ((LT _).out.mono fun _ _ h => ⟨h.1, h.2.symm⟩)))
                all_goals
                  have hb6 := below_drewN hb5 nq
                  go_wp2_with fail
                  have X6 := Lib.hid (show BoxV (w4.drewN nq) _ _ from X4.out)
                  have K6 := Lib.hid (show BoxV (w4.drewN nq) _ _ from K4.out)
                  clear x0 x1 x2 x3 y1 k0
                  generalize w4.drewN nq = wq at *
                  have x0 := X6.out 0 _ rfl
                  have x2 := X6.out 2 _ rfl
                  have x3 := X6.out 3 _ rfl
                  have k0 := K6.out 0 _ rfl
                  go_quiet (first | (go_at_call 91; exact Calls.quiet_of_same ((LA _).out.mono fun _ _ h => ⟨h.1, h.2.symm⟩)) | (go_at_call 42; exact Calls.quiet_of_same ((LN _).out.mono fun _ _ h => ⟨h.1, h.2.symm⟩)))
                  all_goals
                    have hb7 := below_drewN hb6 nq
                    go_wp2_with fail
                    go_ret
                    exact ⟨ret_bool' (HW.out.symm), hb7⟩
              · have HW := Lib.hid (show res = false by
                  rw [HV.out, if_neg h1]
                  exact decide_eq_false (by omega))
                have e3 := beq_no h1
                clear HV hn hn0 h1
                go_enter Tryd.func65, Tryd.ntmps65
                go_wp2_with fail
                (with_reducible refine Calls.mono (LO _).out ?_)
                rintro ee w1 ⟨rfl, rfl⟩
                have x2 := X0.out 2 _ rfl
                have y0 := Y0.out 0 _ rfl
                have y1 := Y0.out 1 _ rfl
                have y2 := Y0.out 2 _ rfl
                go_wp2_with fail
                (with_reducible refine Calls.mono (HC.out _ hb).out ?_)
                rintro ee w4 ⟨rfl, hb4⟩
                have hb5 := hb.trans (hb4.mono hb.size)
                have K4 := Lib.hid (K0.out.below hb4 (by omega))
                have X4 := Lib.hid (X0.out.below hb4 (by omega))
                have Y4 := Lib.hid (Y0.out.below hb4 hy0)
                clear x2 y0 y1 y2
                have x0 := X4.out 0 _ rfl
                have x1 := X4.out 1 _ rfl
                have x2 := X4.out 2 _ rfl
                have x3 := X4.out 3 _ rfl
                have y1 := Y4.out 1 _ rfl
                have k0 := K4.out 0 _ rfl
                go_wp2_with fail
                go_quiet (first | (go_at_call 52; exact Calls.quiet_of_same ((MK _).out.mono fun _ _ h => ⟨h.1, h.2.symm⟩)) | (go_at_call 42; exact Calls.quiet_of_same ((LT _).out.mono fun _ _ h => ⟨h.1, h.2.symm⟩)))
                all_goals
                  have hb6 := below_drewN hb5 nq
                  go_wp2_with fail
                  have X6 := Lib.hid (show BoxV (w4.drewN nq) _ _ from X4.out)
                  have K6 := Lib.hid (show BoxV (w4.drewN nq) _ _ from K4.out)
                  clear x0 x1 x2 x3 y1 k0
                  generalize w4.drewN nq = wq at *
                  have x0 := X6.out 0 _ rfl
                  have x2 := X6.out 2 _ rfl
                  have x3 := X6.out 3 _ rfl
                  have k0 := K6.out 0 _ rfl
                  go_quiet (first | (go_at_call 91; exact Calls.quiet_of_same ((LA _).out.mono fun _ _ h => ⟨h.1, h.2.symm⟩)) | (go_at_call 42; exact Calls.quiet_of_same ((LN _).out.mono fun _ _ h => ⟨h.1, h.2.symm⟩)))
                  all_goals
                    have hb7 := below_drewN hb6 nq
                    go_wp2_with fail
                    go_ret
                    exact ⟨ret_bool' (HW.out.symm), hb7⟩
        · have HW := Lib.hid (show res = false by rw [HV.out, decide_eq_false hl]; simp)
          have e1 := beq_no hl
          replace LN := fun W => Lib.hid (LN W)
          clear HV hl
          go_enter Tryd.func65, Tryd.ntmps65
          go_wp2_with fail
          (with_reducible refine Calls.mono (LO _).out ?_)
          rintro ee w1 ⟨rfl, rfl⟩
          have x2 := X0.out 2 _ rfl
          have y0 := Y0.out 0 _ rfl
          have y1 := Y0.out 1 _ rfl
          have y2 := Y0.out 2 _ rfl
          go_wp2_with fail
          (with_reducible refine Calls.mono (HC.out _ hb).out ?_)
          rintro ee w4 ⟨rfl, hb4⟩
          have hb5 := hb.trans (hb4.mono hb.size)
          have K4 := Lib.hid (K0.out.below hb4 (by omega))
          have X4 := Lib.hid (X0.out.below hb4 (by omega))
          have Y4 := Lib.hid (Y0.out.below hb4 hy0)
          clear x2 y0 y1 y2
          have x0 := X4.out 0 _ rfl
          have x1 := X4.out 1 _ rfl
          have x2 := X4.out 2 _ rfl
          have x3 := X4.out 3 _ rfl
          have y1 := Y4.out 1 _ rfl
          have k0 := K4.out 0 _ rfl
          go_wp2_with fail
          go_quiet (first | (go_at_call 52; exact Calls.quiet_of_same ((MK _).out.mono fun _ _ h => ⟨h.1, h.2.symm⟩)) | (go_at_call 42; exact Calls.quiet_of_same ((LT _).out.mono fun _ _ h => ⟨h.1, h.2.symm⟩)))
          all_goals
            have hb6 := below_drewN hb5 nq
            go_wp2_with fail
            have X6 := Lib.hid (show BoxV (w4.drewN nq) _ _ from X4.out)
            have K6 := Lib.hid (show BoxV (w4.drewN nq) _ _ from K4.out)
            clear x0 x1 x2 x3 y1 k0
            generalize w4.drewN nq = wq at *
            have x0 := X6.out 0 _ rfl
            have x2 := X6.out 2 _ rfl
            have x3 := X6.out 3 _ rfl
            have k0 := K6.out 0 _ rfl
            go_quiet (first | (go_at_call 91; exact Calls.quiet_of_same ((LA _).out.mono fun _ _ h => ⟨h.1, h.2.symm⟩)) | (go_at_call 42; exact Calls.quiet_of_same ((LN _).out.mono fun _ _ h => ⟨h.1, h.2.symm⟩)))
            all_goals
              have hb7 := below_drewN hb6 nq
              go_wp2_with fail
              go_ret
              exact ⟨ret_bool' (HW.out.symm), hb7⟩
      · have HW := Lib.hid (show res = false by rw [HV.out, decide_eq_false ht]; simp)
        have q1 := beq_no ht
        have q2 : (to != -1) = true := by rw [bne, q1]; rfl
        clear HV HPR HW0 HT2 HMK ht
        go_enter Tryd.func65, Tryd.ntmps65
        go_wp2_with fail
        (with_reducible refine Calls.mono (LO _).out ?_)
        rintro ee w1 ⟨rfl, rfl⟩
        have x2 := X0.out 2 _ rfl
        have y0 := Y0.out 0 _ rfl
        have y1 := Y0.out 1 _ rfl
        have y2 := Y0.out 2 _ rfl
        go_wp2_with fail
        (with_reducible refine Calls.mono (HC.out _ hb).out ?_)
        rintro ee w4 ⟨rfl, hb4⟩
        have hb5 := hb.trans (hb4.mono hb.size)
        have K4 := Lib.hid (K0.out.below hb4 (by omega))
        have X4 := Lib.hid (X0.out.below hb4 (by omega))
        have Y4 := Lib.hid (Y0.out.below hb4 hy0)
        clear x2 y0 y1 y2
        have x0 := X4.out 0 _ rfl
        have x1 := X4.out 1 _ rfl
        have x2 := X4.out 2 _ rfl
        have x3 := X4.out 3 _ rfl
        have y1 := Y4.out 1 _ rfl
        have k0 := K4.out 0 _ rfl
        go_wp2_with fail
        go_quiet (first | (go_at_call 52; exact Calls.quiet_of_same ((MK _).out.mono fun _ _ h => ⟨h.1, h.2.symm⟩)) | (go_at_call 42; exact Calls.quiet_of_same ((LT _).out.mono fun _ _ h => ⟨h.1, h.2.symm⟩)))
        all_goals
          have hb6 := below_drewN hb5 nq
          go_wp2_with fail
          go_ret
          exact ⟨ret_bool' (HW.out.symm), hb6⟩
    · have HW := Lib.hid (show res = false by rw [HV.out, decide_eq_false (HT2.out (by trivial))]; simp)
      clear HV HPR HW0 HT2 HMK
      go_enter Tryd.func65, Tryd.ntmps65
      go_wp2_with fail
      (with_reducible refine Calls.mono (LO _).out ?_)
      rintro ee w1 ⟨rfl, rfl⟩
      have x2 := X0.out 2 _ rfl
      have y0 := Y0.out 0 _ rfl
      have y1 := Y0.out 1 _ rfl
      have y2 := Y0.out 2 _ rfl
      go_wp2_with fail
      (with_reducible refine Calls.mono (HC.out _ hb).out ?_)
      rintro ee w4 ⟨rfl, hb4⟩
      have hb5 := hb.trans (hb4.mono hb.size)
      have K4 := Lib.hid (K0.out.below hb4 (by omega))
      have X4 := Lib.hid (X0.out.below hb4 (by omega))
      have Y4 := Lib.hid (Y0.out.below hb4 hy0)
      clear x2 y0 y1 y2
      have x0 := X4.out 0 _ rfl
      have x1 := X4.out 1 _ rfl
      have x2 := X4.out 2 _ rfl
      have x3 := X4.out 3 _ rfl
      have y1 := Y4.out 1 _ rfl
      have k0 := K4.out 0 _ rfl
      go_wp2_with fail
      go_quiet (first | (go_at_call 52; exact Calls.quiet_of_same ((MK _).out.mono fun _ _ h => ⟨h.1, h.2.symm⟩)) | (go_at_call 42; exact Calls.quiet_of_same ((LT _).out.mono fun _ _ h => ⟨h.1, h.2.symm⟩)))
      all_goals
        have hb6 := below_drewN hb5 nq
        go_wp2_with fail
        go_ret
        exact ⟨ret_bool' (HW.out.symm), hb6⟩
  · rw [if_pos rfl] at HV
    cases zt
    · have HW := Lib.hid (show res = false by rw [HV.out]; simp)
      clear HV HPR HW0 HT2 HMK
      go_enter Tryd.func65, Tryd.ntmps65
      go_wp2_with fail
      (with_reducible refine Calls.mono (LO _).out ?_)
      rintro ee w1 ⟨rfl, rfl⟩
      have x2 := X0.out 2 _ rfl
      have y0 := Y0.out 0 _ rfl
      have y1 := Y0.out 1 _ rfl
      have y2 := Y0.out 2 _ rfl
      go_wp2_with fail
      (with_reducible refine Calls.mono (HC.out _ hb).out ?_)
      rintro ee w4 ⟨rfl, hb4⟩
      have hb5 := hb.trans (hb4.mono hb.size)
      have K4 := Lib.hid (K0.out.below hb4 (by omega))
      have X4 := Lib.hid (X0.out.below hb4 (by omega))
      have Y4 := Lib.hid (Y0.out.below hb4 hy0)
      clear x2 y0 y1 y2
      have x0 := X4.out 0 _ rfl
      have x1 := X4.out 1 _ rfl
      have x2 := X4.out 2 _ rfl
      have x3 := X4.out 3 _ rfl
      have y1 := Y4.out 1 _ rfl
      have k0 := K4.out 0 _ rfl
      go_wp2_with fail
      go_quiet (first | (go_at_call 52; exact Calls.quiet_of_same ((MK _).out.mono fun _ _ h => ⟨h.1, h.2.symm⟩)) | (go_at_call 42; exact Calls.quiet_of_same ((LT _).out.mono fun _ _ h => ⟨h.1, h.2.symm⟩)))
      all_goals
        have hb6 := below_drewN hb5 nq
        go_wp2_with fail
        go_ret
        exact ⟨ret_bool' (HW.out.symm), hb6⟩
    · rw [Bool.true_and] at HV
      clear HMK HT2
      by_cases h14 : op = 14
      · rw [if_pos h14] at HW0
        have hmo : mostI k op = (k : Int) - 1 := by unfold mostI; rw [if_neg (by omega), if_pos h14]
        rw [hmo] at HV
        have q14 := beq_yes h14
        clear h14 hmo
        have LN := fun W => uIn_any n 0 ((k : Int) - 1) W
        by_cases hn : ¬ (0 ≤ n ∧ n ≤ (k : Int) - 1)
        · have HW := Lib.hid (show res = false by rw [HV.out, decide_eq_false hn]; rfl)
          simp only [decide_eq_false hn] at LN
          replace LN := fun W => Lib.hid (LN W)
          clear HV HPR HW0 hn
          go_enter Tryd.func65, Tryd.ntmps65
          go_wp2_with fail
          (with_reducible refine Calls.mono (LO _).out ?_)
          rintro ee w1 ⟨rfl, rfl⟩
          have x2 := X0.out 2 _ rfl
          have y0 := Y0.out 0 _ rfl
          have y1 := Y0.out 1 _ rfl
          have y2 := Y0.out 2 _ rfl
          go_wp2_with fail
          (with_reducible refine Calls.mono (HC.out _ hb).out ?_)
          rintro ee w4 ⟨rfl, hb4⟩
          have hb5 := hb.trans (hb4.mono hb.size)
          have K4 := Lib.hid (K0.out.below hb4 (by omega))
          have X4 := Lib.hid (X0.out.below hb4 (by omega))
          have Y4 := Lib.hid (Y0.out.below hb4 hy0)
          clear x2 y0 y1 y2
          have x0 := X4.out 0 _ rfl
          have x1 := X4.out 1 _ rfl
          have x2 := X4.out 2 _ rfl
          have x3 := X4.out 3 _ rfl
          have y1 := Y4.out 1 _ rfl
          have k0 := K4.out 0 _ rfl
          go_wp2_with fail
          go_quiet (first | (go_at_call 52; exact Calls.quiet_of_same ((MK _).out.mono fun _ _ h => ⟨h.1, h.2.symm⟩)) | (go_at_call 42; exact Calls.quiet_of_same ((LT _).out.mono fun _ _ h => ⟨h.1, h.2.symm⟩)))
          all_goals
            have hb6 := below_drewN hb5 nq
            go_wp2_with fail
            have X6 := Lib.hid (show BoxV (w4.drewN nq) _ _ from X4.out)
            have K6 := Lib.hid (show BoxV (w4.drewN nq) _ _ from K4.out)
            clear x0 x1 x2 x3 y1 k0
            generalize w4.drewN nq = wq at *
            have x0 := X6.out 0 _ rfl
            have x2 := X6.out 2 _ rfl
            have x3 := X6.out 3 _ rfl
            have k0 := K6.out 0 _ rfl
            go_quiet (first | (go_at_call 42; exact Calls.quiet_of_same ((LN _).out.mono fun _ _ h => ⟨h.1, h.2.symm⟩)))
            all_goals
              have hb7 := below_drewN hb6 nq
              go_wp2_with fail
              go_ret
              exact ⟨ret_bool' (HW.out.symm), hb7⟩
        · replace hn : 0 ≤ n ∧ n ≤ (k : Int) - 1 := by omega
          simp only [decide_eq_true hn] at LN
          replace LN := fun W => Lib.hid (LN W)
          rw [decide_eq_true hn, Bool.true_and] at HV
          obtain ⟨kn, rfl⟩ := Int.eq_ofNat_of_zero_le hn.1
          have hkn : kn < cs.length := by omega
          have hwant : want = cs[kn].params := by rw [HW0.out]; simp [List.getElem?_eq_getElem hkn]
          have HP := HPR.out kn hkn
          rw [← hwant] at HP
          replace HP := Lib.hid HP
          clear HPR HW0 hwant
          by_cases hl : (args.length : Int) = want
          · have HW := Lib.hid (show res = true by rw [HV.out, decide_eq_true hl])
            have e1 := beq_yes hl
            clear HV hl
            go_enter Tryd.func65, Tryd.ntmps65
            go_wp2_with fail
            (with_reducible refine Calls.mono (LO _).out ?_)
            rintro ee w1 ⟨rfl, rfl⟩
            have x2 := X0.out 2 _ rfl
            have y0 := Y0.out 0 _ rfl
            have y1 := Y0.out 1 _ rfl
            have y2 := Y0.out 2 _ rfl
            go_wp2_with fail
            (with_reducible refine Calls.mono (HC.out _ hb).out ?_)
            rintro ee w4 ⟨rfl, hb4⟩
            have hb5 := hb.trans (hb4.mono hb.size)
            have K4 := Lib.hid (K0.out.below hb4 (by omega))
            have X4 := Lib.hid (X0.out.below hb4 (by omega))
            have Y4 := Lib.hid (Y0.out.below hb4 hy0)
            clear x2 y0 y1 y2
            have x0 := X4.out 0 _ rfl
            have x1 := X4.out 1 _ rfl
            have x2 := X4.out 2 _ rfl
            have x3 := X4.out 3 _ rfl
            have y1 := Y4.out 1 _ rfl
            have k0 := K4.out 0 _ rfl
            go_wp2_with fail
            go_quiet (first | (go_at_call 52; exact Calls.quiet_of_same ((MK _).out.mono fun _ _ h => ⟨h.1, h.2.symm⟩)) | (go_at_call 42; exact Calls.quiet_of_same ((LT _).out.mono fun _ _ h => ⟨h.1, h.2.symm⟩)))
            all_goals
              have hb6 := below_drewN hb5 nq
              go_wp2_with fail
              have X6 := Lib.hid (show BoxV (w4.drewN nq) _ _ from X4.out)
              have K6 := Lib.hid (show BoxV (w4.drewN nq) _ _ from K4.out)
              clear x0 x1 x2 x3 y1 k0
              generalize w4.drewN nq = wq at *
              have x0 := X6.out 0 _ rfl
              have x2 := X6.out 2 _ rfl
              have x3 := X6.out 3 _ rfl
              have k0 := K6.out 0 _ rfl
              have p0 := HP.out _ hb6
              go_quiet (first | (go_at_call 42; exact Calls.quiet_of_same ((LN _).out.mono fun _ _ h => ⟨h.1, h.2.symm⟩)))
              all_goals
                have hb7 := below_drewN hb6 nq
                go_wp2_with fail
                go_ret
                exact ⟨ret_bool' (HW.out.symm), hb7⟩
          · have HW := Lib.hid (show res = false by rw [HV.out, decide_eq_false hl])
            have e1 := beq_no hl
            clear HV hl
            go_enter Tryd.func65, Tryd.ntmps65
            go_wp2_with fail
            (with_reducible refine Calls.mono (LO _).out ?_)
            rintro ee w1 ⟨rfl, rfl⟩
            have x2 := X0.out 2 _ rfl
            have y0 := Y0.out 0 _ rfl
            have y1 := Y0.out 1 _ rfl
            have y2 := Y0.out 2 _ rfl
            go_wp2_with fail
            (with_reducible refine Calls.mono (HC.out _ hb).out ?_)
            rintro ee w4 ⟨rfl, hb4⟩
            have hb5 := hb.trans (hb4.mono hb.size)
            have K4 := Lib.hid (K0.out.below hb4 (by omega))
            have X4 := Lib.hid (X0.out.below hb4 (by omega))
            have Y4 := Lib.hid (Y0.out.below hb4 hy0)
            clear x2 y0 y1 y2
            have x0 := X4.out 0 _ rfl
            have x1 := X4.out 1 _ rfl
            have x2 := X4.out 2 _ rfl
            have x3 := X4.out 3 _ rfl
            have y1 := Y4.out 1 _ rfl
            have k0 := K4.out 0 _ rfl
            go_wp2_with fail
            go_quiet (first | (go_at_call 52; exact Calls.quiet_of_same ((MK _).out.mono fun _ _ h => ⟨h.1, h.2.symm⟩)) | (go_at_call 42; exact Calls.quiet_of_same ((LT _).out.mono fun _ _ h => ⟨h.1, h.2.symm⟩)))
            all_goals
              have hb6 := below_drewN hb5 nq
              go_wp2_with fail
              have X6 := Lib.hid (show BoxV (w4.drewN nq) _ _ from X4.out)
              have K6 := Lib.hid (show BoxV (w4.drewN nq) _ _ from K4.out)
              clear x0 x1 x2 x3 y1 k0
              generalize w4.drewN nq = wq at *
              have x0 := X6.out 0 _ rfl
              have x2 := X6.out 2 _ rfl
              have x3 := X6.out 3 _ rfl
              have k0 := K6.out 0 _ rfl
              have p0 := HP.out _ hb6
              go_quiet (first | (go_at_call 42; exact Calls.quiet_of_same ((LN _).out.mono fun _ _ h => ⟨h.1, h.2.symm⟩)))
              all_goals
                have hb7 := below_drewN hb6 nq
                go_wp2_with fail
                go_ret
                exact ⟨ret_bool' (HW.out.symm), hb7⟩
      · skip
        rw [if_neg h14] at HW0
        have hwant : iArgs op = want := HW0.out.symm
        have q14 := beq_no h14
        have LA := fun W => l7Args_any op (by omega) (by omega) W
        rw [hwant] at LA
        replace LA := fun W => Lib.hid (LA W)
        have LN := fun W => uIn_any n 0 255 W
        have hmo : mostI k op = if op = 1 then 255 else 0 := by unfold mostI; rw [if_neg h14]
        rw [hmo] at HV
        clear HW0 hmo HPR h14 hwant
        by_cases hl : (args.length : Int) = want
        · rw [decide_eq_true hl, Bool.and_true] at HV
          have e1 := beq_yes hl
          clear hl
          by_cases hn : ¬ (0 ≤ n ∧ n ≤ 255)
          · have HW := Lib.hid (show res = false by
              rw [HV.out]
              apply decide_eq_false
              split <;> omega)
            simp only [decide_eq_false hn] at LN
            replace LN := fun W => Lib.hid (LN W)
            clear HV hn
            go_enter Tryd.func65, Tryd.ntmps65
            go_wp2_with fail
            (with_reducible refine Calls.mono (LO _).out ?_)
            rintro ee w1 ⟨rfl, rfl⟩
            have x2 := X0.out 2 _ rfl
            have y0 := Y0.out 0 _ rfl
            have y1 := Y0.out 1 _ rfl
            have y2 := Y0.out 2 _ rfl
            go_wp2_with fail
            (with_reducible refine Calls.mono (HC.out _ hb).out ?_)
            rintro ee w4 ⟨rfl, hb4⟩
            have hb5 := hb.trans (hb4.mono hb.size)
            have K4 := Lib.hid (K0.out.below hb4 (by omega))
            have X4 := Lib.hid (X0.out.below hb4 (by omega))
            have Y4 := Lib.hid (Y0.out.below hb4 hy0)
            clear x2 y0 y1 y2
            have x0 := X4.out 0 _ rfl
            have x1 := X4.out 1 _ rfl
            have x2 := X4.out 2 _ rfl
            have x3 := X4.out 3 _ rfl
            have y1 := Y4.out 1 _ rfl
            have k0 := K4.out 0 _ rfl
            go_wp2_with fail
            go_quiet (first | (go_at_call 52; exact Calls.quiet_of_same ((MK _).out.mono fun _ _ h => ⟨h.1, h.2.symm⟩)) | (go_at_call 42; exact Calls.quiet_of_same ((LT _).out.mono fun _ _ h => ⟨h.1, h.2.symm⟩)))
            all_goals
              have hb6 := below_drewN hb5 nq
              go_wp2_with fail
              have X6 := Lib.hid (show BoxV (w4.drewN nq) _ _ from X4.out)
              have K6 := Lib.hid (show BoxV (w4.drewN nq) _ _ from K4.out)
              clear x0 x1 x2 x3 y1 k0
              generalize w4.drewN nq = wq at *
              have x0 := X6.out 0 _ rfl
              have x2 := X6.out 2 _ rfl
              have x3 := X6.out 3 _ rfl
              have k0 := K6.out 0 _ rfl
              go_quiet (first | (go_at_call 91; exact Calls.quiet_of_same ((LA _).out.mono fun _ _ h => ⟨h.1, h.2.symm⟩)) | (go_at_call 42; exact Calls.quiet_of_same ((LN _).out.mono fun _ _ h => ⟨h.1, h.2.symm⟩)))
              all_goals
                have hb7 := below_drewN hb6 nq
                go_wp2_with fail
                go_ret
                exact ⟨ret_bool' (HW.out.symm), hb7⟩
          · replace hn : 0 ≤ n ∧ n ≤ 255 := by omega
            simp only [decide_eq_true hn] at LN
            replace LN := fun W => Lib.hid (LN W)
            by_cases hn0 : n = 0
            · have HW := Lib.hid (show res = true by
                rw [HV.out]
                apply decide_eq_true
                split <;> omega)
              have e2 := beq_yes hn0
              clear HV hn hn0
              go_enter Tryd.func65, Tryd.ntmps65
              go_wp2_with fail
              (with_reducible refine Calls.mono (LO _).out ?_)
              rintro ee w1 ⟨rfl, rfl⟩
              have x2 := X0.out 2 _ rfl
              have y0 := Y0.out 0 _ rfl
              have y1 := Y0.out 1 _ rfl
              have y2 := Y0.out 2 _ rfl
              go_wp2_with fail
              (with_reducible refine Calls.mono (HC.out _ hb).out ?_)
              rintro ee w4 ⟨rfl, hb4⟩
              have hb5 := hb.trans (hb4.mono hb.size)
              have K4 := Lib.hid (K0.out.below hb4 (by omega))
              have X4 := Lib.hid (X0.out.below hb4 (by omega))
              have Y4 := Lib.hid (Y0.out.below hb4 hy0)
              clear x2 y0 y1 y2
              have x0 := X4.out 0 _ rfl
              have x1 := X4.out 1 _ rfl
              have x2 := X4.out 2 _ rfl
              have x3 := X4.out 3 _ rfl
              have y1 := Y4.out 1 _ rfl
              have k0 := K4.out 0 _ rfl
              go_wp2_with fail
              go_quiet (first | (go_at_call 52; exact Calls.quiet_of_same ((MK _).out.mono fun _ _ h => ⟨h.1, h.2.symm⟩)) | (go_at_call 42; exact Calls.quiet_of_same ((LT _).out.mono fun _ _ h => ⟨h.1, h.2.symm⟩)))
              all_goals
                have hb6 := below_drewN hb5 nq
                go_wp2_with fail
                have X6 := Lib.hid (show BoxV (w4.drewN nq) _ _ from X4.out)
                have K6 := Lib.hid (show BoxV (w4.drewN nq) _ _ from K4.out)
                clear x0 x1 x2 x3 y1 k0
                generalize w4.drewN nq = wq at *
                have x0 := X6.out 0 _ rfl
                have x2 := X6.out 2 _ rfl
                have x3 := X6.out 3 _ rfl
                have k0 := K6.out 0 _ rfl
                go_quiet (first | (go_at_call 91; exact Calls.quiet_of_same ((LA _).out.mono fun _ _ h => ⟨h.1, h.2.symm⟩)) | (go_at_call 42; exact Calls.quiet_of_same ((LN _).out.mono fun _ _ h => ⟨h.1, h.2.symm⟩)))
                all_goals
                  have hb7 := below_drewN hb6 nq
                  go_wp2_with fail
                  go_ret
                  exact ⟨ret_bool' (HW.out.symm), hb7⟩
            · have e2 := beq_no hn0
              by_cases h1 : op = 1
              · have HW := Lib.hid (show res = true by
                  rw [HV.out, if_pos h1]
                  exact decide_eq_true (by omega))
                have e3 := beq_yes h1
                clear HV hn hn0 h1
                go_enter Tryd.func65, Tryd.ntmps65
                go_wp2_with fail
                (with_reducible refine Calls.mono (LO _).out ?_)
                rintro ee w1 ⟨rfl, rfl⟩
                have x2 := X0.out 2 _ rfl
                have y0 := Y0.out 0 _ rfl
                have y1 := Y0.out 1 _ rfl
                have y2 := Y0.out 2 _ rfl
                go_wp2_with fail
                (with_reducible refine Calls.mono (HC.out _ hb).out ?_)
                rintro ee w4 ⟨rfl, hb4⟩
                have hb5 := hb.trans (hb4.mono hb.size)
                have K4 := Lib.hid (K0.out.below hb4 (by omega))
                have X4 := Lib.hid (X0.out.below hb4 (by omega))
                have Y4 := Lib.hid (Y0.out.below hb4 hy0)
                clear x2 y0 y1 y2
                have x0 := X4.out 0 _ rfl
                have x1 := X4.out 1 _ rfl
                have x2 := X4.out 2 _ rfl
                have x3 := X4.out 3 _ rfl
                have y1 := Y4.out 1 _ rfl
                have k0 := K4.out 0 _ rfl
                go_wp2_with fail
                go_quiet (first | (go_at_call 52; exact Calls.quiet_of_same ((MK _).out.mono fun _ _ h => ⟨h.1, h.2.symm⟩)) | (go_at_call 42; exact Calls.quiet_of_same ((LT _).out.mono fun _ _ h => ⟨h.1, h.2.symm⟩)))
                all_goals
                  have hb6 := below_drewN hb5 nq
                  go_wp2_with fail
                  have X6 := Lib.hid (show BoxV (w4.drewN nq) _ _ from X4.out)
                  have K6 := Lib.hid (show BoxV (w4.drewN nq) _ _ from K4.out)
                  clear x0 x1 x2 x3 y1 k0
                  generalize w4.drewN nq = wq at *
                  have x0 := X6.out 0 _ rfl
                  have x2 := X6.out 2 _ rfl
                  have x3 := X6.out 3 _ rfl
                  have k0 := K6.out 0 _ rfl
                  go_quiet (first | (go_at_call 91; exact Calls.quiet_of_same ((LA _).out.mono fun _ _ h => ⟨h.1, h.2.symm⟩)) | (go_at_call 42; exact Calls.quiet_of_same ((LN _).out.mono fun _ _ h => ⟨h.1, h.2.symm⟩)))
                  all_goals
                    have hb7 := below_drewN hb6 nq
                    go_wp2_with fail
                    go_ret
                    exact ⟨ret_bool' (HW.out.symm), hb7⟩
              · have HW := Lib.hid (show res = false by
                  rw [HV.out, if_neg h1]
                  exact decide_eq_false (by omega))
                have e3 := beq_no h1
                clear HV hn hn0 h1
                go_enter Tryd.func65, Tryd.ntmps65
                go_wp2_with fail
                (with_reducible refine Calls.mono (LO _).out ?_)
                rintro ee w1 ⟨rfl, rfl⟩
                have x2 := X0.out 2 _ rfl
                have y0 := Y0.out 0 _ rfl
                have y1 := Y0.out 1 _ rfl
                have y2 := Y0.out 2 _ rfl
                go_wp2_with fail
                (with_reducible refine Calls.mono (HC.out _ hb).out ?_)
                rintro ee w4 ⟨rfl, hb4⟩
                have hb5 := hb.trans (hb4.mono hb.size)
                have K4 := Lib.hid (K0.out.below hb4 (by omega))
                have X4 := Lib.hid (X0.out.below hb4 (by omega))
                have Y4 := Lib.hid (Y0.out.below hb4 hy0)
                clear x2 y0 y1 y2
                have x0 := X4.out 0 _ rfl
                have x1 := X4.out 1 _ rfl
                have x2 := X4.out 2 _ rfl
                have x3 := X4.out 3 _ rfl
                have y1 := Y4.out 1 _ rfl
                have k0 := K4.out 0 _ rfl
                go_wp2_with fail
                go_quiet (first | (go_at_call 52; exact Calls.quiet_of_same ((MK _).out.mono fun _ _ h => ⟨h.1, h.2.symm⟩)) | (go_at_call 42; exact Calls.quiet_of_same ((LT _).out.mono fun _ _ h => ⟨h.1, h.2.symm⟩)))
                all_goals
                  have hb6 := below_drewN hb5 nq
                  go_wp2_with fail
                  have X6 := Lib.hid (show BoxV (w4.drewN nq) _ _ from X4.out)
                  have K6 := Lib.hid (show BoxV (w4.drewN nq) _ _ from K4.out)
                  clear x0 x1 x2 x3 y1 k0
                  generalize w4.drewN nq = wq at *
                  have x0 := X6.out 0 _ rfl
                  have x2 := X6.out 2 _ rfl
                  have x3 := X6.out 3 _ rfl
                  have k0 := K6.out 0 _ rfl
                  go_quiet (first | (go_at_call 91; exact Calls.quiet_of_same ((LA _).out.mono fun _ _ h => ⟨h.1, h.2.symm⟩)) | (go_at_call 42; exact Calls.quiet_of_same ((LN _).out.mono fun _ _ h => ⟨h.1, h.2.symm⟩)))
                  all_goals
                    have hb7 := below_drewN hb6 nq
                    go_wp2_with fail
                    go_ret
                    exact ⟨ret_bool' (HW.out.symm), hb7⟩
        · have HW := Lib.hid (show res = false by rw [HV.out, decide_eq_false hl]; simp)
          have e1 := beq_no hl
          replace LN := fun W => Lib.hid (LN W)
          clear HV hl
          go_enter Tryd.func65, Tryd.ntmps65
          go_wp2_with fail
          (with_reducible refine Calls.mono (LO _).out ?_)
          rintro ee w1 ⟨rfl, rfl⟩
          have x2 := X0.out 2 _ rfl
          have y0 := Y0.out 0 _ rfl
          have y1 := Y0.out 1 _ rfl
          have y2 := Y0.out 2 _ rfl
          go_wp2_with fail
          (with_reducible refine Calls.mono (HC.out _ hb).out ?_)
          rintro ee w4 ⟨rfl, hb4⟩
          have hb5 := hb.trans (hb4.mono hb.size)
          have K4 := Lib.hid (K0.out.below hb4 (by omega))
          have X4 := Lib.hid (X0.out.below hb4 (by omega))
          have Y4 := Lib.hid (Y0.out.below hb4 hy0)
          clear x2 y0 y1 y2
          have x0 := X4.out 0 _ rfl
          have x1 := X4.out 1 _ rfl
          have x2 := X4.out 2 _ rfl
          have x3 := X4.out 3 _ rfl
          have y1 := Y4.out 1 _ rfl
          have k0 := K4.out 0 _ rfl
          go_wp2_with fail
          go_quiet (first | (go_at_call 52; exact Calls.quiet_of_same ((MK _).out.mono fun _ _ h => ⟨h.1, h.2.symm⟩)) | (go_at_call 42; exact Calls.quiet_of_same ((LT _).out.mono fun _ _ h => ⟨h.1, h.2.symm⟩)))
          all_goals
            have hb6 := below_drewN hb5 nq
            go_wp2_with fail
            have X6 := Lib.hid (show BoxV (w4.drewN nq) _ _ from X4.out)
            have K6 := Lib.hid (show BoxV (w4.drewN nq) _ _ from K4.out)
            clear x0 x1 x2 x3 y1 k0
            generalize w4.drewN nq = wq at *
            have x0 := X6.out 0 _ rfl
            have x2 := X6.out 2 _ rfl
            have x3 := X6.out 3 _ rfl
            have k0 := K6.out 0 _ rfl
            go_quiet (first | (go_at_call 91; exact Calls.quiet_of_same ((LA _).out.mono fun _ _ h => ⟨h.1, h.2.symm⟩)) | (go_at_call 42; exact Calls.quiet_of_same ((LN _).out.mono fun _ _ h => ⟨h.1, h.2.symm⟩)))
            all_goals
              have hb7 := below_drewN hb6 nq
              go_wp2_with fail
              go_ret
              exact ⟨ret_bool' (HW.out.symm), hb7⟩
end Go.Proofs.YtomhomnibikceaaDoor
