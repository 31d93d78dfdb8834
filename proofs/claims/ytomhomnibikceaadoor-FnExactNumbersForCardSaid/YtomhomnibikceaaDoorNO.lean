/-
  What the program asks of an instruction.
-/
import Derived.Test.YtomhomnibikceaaDoorNN
import Derived.BigQuiet
namespace Go.Proofs.YtomhomnibikceaaDoor
open Go.RowKit
set_option maxRecDepth 100000

set_option maxHeartbeats 8000000 in
theorem insFits_any (c : Cd) (A : Option Addr) (cap : Nat) (x : Ik) (v : Value) (es : List Cd) (AE : Option Addr) (capE : Nat) (w : World) (hV : IkV w (Lt w.heap.size) x v) (hE : CdS w (Lt w.heap.size) es AE) (hbk : bulkIk x ≤ 1048576) (hel : es.length ≤ 1048576) (T : InsT w) :
    Calls Tryd.prog 74 #[cdv c A cap, v, .slice AE es.length capE] w (BoolB (insB es es.length c x) w) := by
  obtain ⟨A2, c2, rfl, r2⟩ := hV
  have hal : x.args.length ≤ 1048576 := hbk
  obtain ⟨op, to, args, n⟩ := x
  clear hbk
  dsimp only at *
  have CF := insForm_any op
  have CH := fun W => Lib.hid (hasReg_any c A cap to W)
  have CA := fun W (h : Below w.heap.size w W) => Lib.hid (allRegs_any c args hal A2 c2 A cap W (r2.on h h.size))
  have MN := fun W => Lib.hid (mostN_any op es.length hel W)
  have HV := Lib.hid (show insB es es.length c ⟨op, to, args, n⟩ = (decide (1 ≤ op ∧ op ≤ 14) && (decide (0 ≤ n ∧ n ≤ mostI es.length op) && ((if iMakes op then regB c to else decide (to = -1)) && (decide ((args.length : Int) = wantI es ⟨op, to, args, n⟩) && args.all (regB c))))) from rfl)
  generalize insB es es.length c ⟨op, to, args, n⟩ = res at *
  generalize args.all (regB c) = za at *
  generalize regB c to = zt at *
  have HW0 := Lib.hid (show wantI es ⟨op, to, args, n⟩ = if op = 14 then (match es[n.toNat]? with | some c => c.params | none => 0) else iArgs op from rfl)
  generalize wantI es ⟨op, to, args, n⟩ = want at *
  have HN := Lib.hid (iname_iff op)
  have HMO := Lib.hid (show op = 14 → mostI es.length op = (es.length : Int) - 1 from fun h => by unfold mostI; rw [if_neg (by omega), if_pos h])
  have HMK := Lib.hid (show op = 14 → iMakes op = true from fun h => by rw [h]; rfl)
  unfold cdv at CH CA ⊢
  unfold insV at CF
  obtain ⟨p, g, bs⟩ := c
  dsimp only at *
  have HE := Lib.hid hE
  clear hE r2
  have K0 := Lib.hid ((BoxV.new w [.int .i64 p, .int .i64 g, .slice A bs.length cap] 44).below ((Below.refl _ _).alloc (Nat.le_refl _) (.cells #[.int .i64 op, .int .i64 to, .slice A2 args.length c2, .int .i64 n] 62)) (by rw [World.size_alloc]; omega))
  have sz1 : (w.alloc (.cells #[.int .i64 p, .int .i64 g, .slice A bs.length cap] 44)).heap.size = w.heap.size + 1 := World.size_alloc _ _
  have X0 := BoxV.new (w.alloc (.cells #[.int .i64 p, .int .i64 g, .slice A bs.length cap] 44)) [.int .i64 op, .int .i64 to, .slice A2 args.length c2, .int .i64 n] 62
  rw [sz1] at X0
  replace X0 := Lib.hid X0
  have hx0 : w.heap.size + 1 < ((w.alloc (.cells #[.int .i64 p, .int .i64 g, .slice A bs.length cap] 44)).alloc (.cells #[.int .i64 op, .int .i64 to, .slice A2 args.length c2, .int .i64 n] 62)).heap.size := by rw [World.size_alloc, sz1]; omega
  have hb := two_boxes w (.cells #[.int .i64 p, .int .i64 g, .slice A bs.length cap] 44) (.cells #[.int .i64 op, .int .i64 to, .slice A2 args.length c2, .int .i64 n] 62)
  have hbs := hb.size
  replace CF := CF _ (T.below hb)
  clear T sz1
  generalize hmo : mostI es.length op = mo at *
  clear hmo
  generalize iName op = nm at *
  generalize hmk : iMakes op = mk at *
  clear hmk
  generalize iTells op = tl at *
  generalize iArgs op = ar at *
  replace CF := Lib.hid CF

  by_cases ho : ¬ (1 ≤ op ∧ op ≤ 14)
  · have hne : nm = ⟨#[]⟩ := HN.out.2 ho
    have HW := Lib.hid (show res = false by rw [HV.out, decide_eq_false ho]; rfl)
    subst hne
    clear HV HN HMO HMK CA CH HW0 ho HE
    go_enter Tryd.func74, Tryd.ntmps74
    go_wp2_with fail
    (with_reducible refine Calls.mono CF.out ?_)
    rintro ee w1 ⟨rfl, hb1⟩
    have hb2 := hb.trans (hb1.mono hbs)
    have hal1 := (Below.refl w1.heap.size w1).alloc (Nat.le_refl _) (.cells #[.string ⟨#[]⟩, .bool mk, .bool tl, .int .i64 ar] 117)
    have hb3 := hb2.trans (hal1.mono hb2.size)
    have K1 := Lib.hid ((K0.out.below hb1 (Nat.lt_of_succ_lt hx0)).below hal1 (Nat.lt_of_lt_of_le (Nat.lt_of_succ_lt hx0) hb1.size))
    have X1 := Lib.hid ((X0.out.below hb1 hx0).below hal1 (Nat.lt_of_lt_of_le hx0 hb1.size))
    have hx1 := Nat.lt_of_lt_of_le (Nat.lt_of_lt_of_le hx0 hb1.size) hal1.size
    have Y1 := Lib.hid (BoxV.new w1 [.string ⟨#[]⟩, .bool mk, .bool tl, .int .i64 ar] 117)
    have hy1 : w1.heap.size < (w1.alloc (.cells #[.string ⟨#[]⟩, .bool mk, .bool tl, .int .i64 ar] 117)).heap.size := by rw [World.size_alloc]; omega
    have y0 := Y1.out 0 _ rfl
    have y1 := Y1.out 1 _ rfl
    have y3 := Y1.out 3 _ rfl
    have x1 := X1.out 1 _ rfl
    have x2 := X1.out 2 _ rfl
    have x3 := X1.out 3 _ rfl
    have k0 := K1.out 0 _ rfl
    have k1 := K1.out 1 _ rfl
    have k2 := K1.out 2 _ rfl
    go_wp2_with fail
    generalize w1.alloc (.cells #[.string ⟨#[]⟩, .bool mk, .bool tl, .int .i64 ar] 117) = wb at *
    go_quiet (first | (go_at_call 99; exact Calls.quiet_of_same ((MN _).out.mono fun _ _ h => ⟨h.1, h.2.symm⟩)))
    all_goals
      have hb4 := below_drewN hb3 nq
      go_wp2_with fail
      go_ret
      exact ⟨ret_bool' HW.out.symm, hb4⟩
  replace ho : 1 ≤ op ∧ op ≤ 14 := by omega
  have hne : nm ≠ ⟨#[]⟩ := fun h => HN.out.1 h ho
  have s1 : ¬ nm.toList = [] := fun h => hne (str_yes (by rw [h]; simp))
  have s2 : nm.toList.isEmpty = false := by rw [List.isEmpty_eq_false_iff]; exact s1
  have s3 : (nm.toList == ([] : List UInt8)) = false := by rw [beq_eq_false_iff_ne]; exact s1
  have s4 : (nm.toList == (⟨#[]⟩ : ByteArray).toList) = false := str_eq_false hne
  rw [decide_eq_true ho, Bool.true_and] at HV
  clear HN hne
  by_cases hn0 : n < 0
  · have HW := Lib.hid (show res = false by rw [HV.out, decide_eq_false (by omega)]; rfl)
    clear HV HMO HMK CA CH HW0 HE
    go_enter Tryd.func74, Tryd.ntmps74
    go_wp2_with fail
    (with_reducible refine Calls.mono CF.out ?_)
    rintro ee w1 ⟨rfl, hb1⟩
    have hb2 := hb.trans (hb1.mono hbs)
    have hal1 := (Below.refl w1.heap.size w1).alloc (Nat.le_refl _) (.cells #[.string nm, .bool mk, .bool tl, .int .i64 ar] 117)
    have hb3 := hb2.trans (hal1.mono hb2.size)
    have K1 := Lib.hid ((K0.out.below hb1 (Nat.lt_of_succ_lt hx0)).below hal1 (Nat.lt_of_lt_of_le (Nat.lt_of_succ_lt hx0) hb1.size))
    have X1 := Lib.hid ((X0.out.below hb1 hx0).below hal1 (Nat.lt_of_lt_of_le hx0 hb1.size))
    have hx1 := Nat.lt_of_lt_of_le (Nat.lt_of_lt_of_le hx0 hb1.size) hal1.size
    have Y1 := Lib.hid (BoxV.new w1 [.string nm, .bool mk, .bool tl, .int .i64 ar] 117)
    have hy1 : w1.heap.size < (w1.alloc (.cells #[.string nm, .bool mk, .bool tl, .int .i64 ar] 117)).heap.size := by rw [World.size_alloc]; omega
    have y0 := Y1.out 0 _ rfl
    have y1 := Y1.out 1 _ rfl
    have y3 := Y1.out 3 _ rfl
    have x1 := X1.out 1 _ rfl
    have x2 := X1.out 2 _ rfl
    have x3 := X1.out 3 _ rfl
    have k0 := K1.out 0 _ rfl
    have k1 := K1.out 1 _ rfl
    have k2 := K1.out 2 _ rfl
    go_wp2_with fail
    generalize w1.alloc (.cells #[.string nm, .bool mk, .bool tl, .int .i64 ar] 117) = wb at *
    go_quiet (first | (go_at_call 99; exact Calls.quiet_of_same ((MN _).out.mono fun _ _ h => ⟨h.1, h.2.symm⟩)))
    all_goals
      have hb4 := below_drewN hb3 nq
      go_wp2_with fail
      go_ret
      exact ⟨ret_bool' HW.out.symm, hb4⟩
  by_cases hn1 : mo < n
  · have HW := Lib.hid (show res = false by rw [HV.out, decide_eq_false (by omega)]; rfl)
    have hn0' : decide (n < 0) = false := decide_eq_false hn0
    clear HV HMO HMK CA CH HW0 HE
    go_enter Tryd.func74, Tryd.ntmps74
    go_wp2_with fail
    (with_reducible refine Calls.mono CF.out ?_)
    rintro ee w1 ⟨rfl, hb1⟩
    have hb2 := hb.trans (hb1.mono hbs)
    have hal1 := (Below.refl w1.heap.size w1).alloc (Nat.le_refl _) (.cells #[.string nm, .bool mk, .bool tl, .int .i64 ar] 117)
    have hb3 := hb2.trans (hal1.mono hb2.size)
    have K1 := Lib.hid ((K0.out.below hb1 (Nat.lt_of_succ_lt hx0)).below hal1 (Nat.lt_of_lt_of_le (Nat.lt_of_succ_lt hx0) hb1.size))
    have X1 := Lib.hid ((X0.out.below hb1 hx0).below hal1 (Nat.lt_of_lt_of_le hx0 hb1.size))
    have hx1 := Nat.lt_of_lt_of_le (Nat.lt_of_lt_of_le hx0 hb1.size) hal1.size
    have Y1 := Lib.hid (BoxV.new w1 [.string nm, .bool mk, .bool tl, .int .i64 ar] 117)
    have hy1 : w1.heap.size < (w1.alloc (.cells #[.string nm, .bool mk, .bool tl, .int .i64 ar] 117)).heap.size := by rw [World.size_alloc]; omega
    have y0 := Y1.out 0 _ rfl
    have y1 := Y1.out 1 _ rfl
    have y3 := Y1.out 3 _ rfl
    have x1 := X1.out 1 _ rfl
    have x2 := X1.out 2 _ rfl
    have x3 := X1.out 3 _ rfl
    have k0 := K1.out 0 _ rfl
    have k1 := K1.out 1 _ rfl
    have k2 := K1.out 2 _ rfl
    go_wp2_with fail
    generalize w1.alloc (.cells #[.string nm, .bool mk, .bool tl, .int .i64 ar] 117) = wb at *
    go_quiet (first | (go_at_call 99; exact Calls.quiet_of_same ((MN _).out.mono fun _ _ h => ⟨h.1, h.2.symm⟩)))
    all_goals
      have hb4 := below_drewN hb3 nq
      go_wp2_with fail
      go_ret
      exact ⟨ret_bool' HW.out.symm, hb4⟩
  have hn0' : decide (n < 0) = false := decide_eq_false hn0
  have hn1' : decide (mo < n) = false := decide_eq_false hn1
  rw [decide_eq_true (show 0 ≤ n ∧ n ≤ mo by omega), Bool.true_and] at HV
  by_cases h14 : op = 14
  · have hmk : mk = true := HMK.out h14
    have hmo := HMO.out h14
    subst hmk
    rw [if_pos rfl] at HV
    obtain ⟨kn, rfl⟩ := Int.eq_ofNat_of_zero_le (show 0 ≤ n by omega)
    have hkn : kn < es.length := by omega
    obtain ⟨be, oe, rfl, hBe, e0, _⟩ := HE.out.at_ hkn
    have hwant : want = es[kn].params := by rw [HW0.out, if_pos h14]; simp [List.getElem?_eq_getElem hkn]
    rw [← hwant] at e0
    clear HW0 HMO HMK HE hwant
    have q14 := beq_yes h14
    clear h14
    have HE0 := Lib.hid (show ∀ W, Below w.heap.size w W → W.cell? ⟨be, oe + kn * 3, none⟩ = some (.int .i64 want) from fun W h => (h.cell (p := ⟨be, oe + kn * 3, none⟩) hBe).trans e0)
    clear e0
    cases zt
    · have HW := Lib.hid (show res = false by rw [HV.out]; rfl)
      clear HV CA
      go_enter Tryd.func74, Tryd.ntmps74
      go_wp2_with fail
      (with_reducible refine Calls.mono CF.out ?_)
      rintro ee w1 ⟨rfl, hb1⟩
      have hb2 := hb.trans (hb1.mono hbs)
      have hal1 := (Below.refl w1.heap.size w1).alloc (Nat.le_refl _) (.cells #[.string nm, .bool true, .bool tl, .int .i64 ar] 117)
      have hb3 := hb2.trans (hal1.mono hb2.size)
      have K1 := Lib.hid ((K0.out.below hb1 (Nat.lt_of_succ_lt hx0)).below hal1 (Nat.lt_of_lt_of_le (Nat.lt_of_succ_lt hx0) hb1.size))
      have X1 := Lib.hid ((X0.out.below hb1 hx0).below hal1 (Nat.lt_of_lt_of_le hx0 hb1.size))
      have hx1 := Nat.lt_of_lt_of_le (Nat.lt_of_lt_of_le hx0 hb1.size) hal1.size
      have Y1 := Lib.hid (BoxV.new w1 [.string nm, .bool true, .bool tl, .int .i64 ar] 117)
      have hy1 : w1.heap.size < (w1.alloc (.cells #[.string nm, .bool true, .bool tl, .int .i64 ar] 117)).heap.size := by rw [World.size_alloc]; omega
      have y0 := Y1.out 0 _ rfl
      have y1 := Y1.out 1 _ rfl
      have y3 := Y1.out 3 _ rfl
      have x1 := X1.out 1 _ rfl
      have x2 := X1.out 2 _ rfl
      have x3 := X1.out 3 _ rfl
      have k0 := K1.out 0 _ rfl
      have k1 := K1.out 1 _ rfl
      have k2 := K1.out 2 _ rfl
      go_wp2_with fail
      generalize w1.alloc (.cells #[.string nm, .bool true, .bool tl, .int .i64 ar] 117) = wb at *
      have e0 := HE0.out _ hb3
      go_quiet (first | (go_at_call 99; exact Calls.quiet_of_same ((MN _).out.mono fun _ _ h => ⟨h.1, h.2.symm⟩)))
      all_goals
        have hb4 := below_drewN hb3 nq
        go_wp2_with fail
        (with_reducible refine Calls.mono (CH _).out ?_)
        rintro ee w5 ⟨rfl, hb5⟩
        have hb6 := hb4.trans (hb5.mono hb4.size)
        have K1d := Lib.hid (show BoxV (wb.drewN nq) w.heap.size _ from K1.out)
        have X1d := Lib.hid (show BoxV (wb.drewN nq) (w.heap.size + 1) _ from X1.out)
        have K5 := Lib.hid (K1d.out.below hb5 (Nat.lt_of_succ_lt hx1))
        have X5 := Lib.hid (X1d.out.below hb5 hx1)
        clear x1 x2 x3 k0 k1 k2
        have x2 := X5.out 2 _ rfl
        have k0 := K5.out 0 _ rfl
        have k1 := K5.out 1 _ rfl
        have k2 := K5.out 2 _ rfl
        go_wp2_with fail
        go_ret
        exact ⟨ret_bool' HW.out.symm, hb6⟩
    · rw [Bool.true_and] at HV
      by_cases hl : (args.length : Int) = want
      · have HW := Lib.hid (show res = za by rw [HV.out, decide_eq_true hl, Bool.true_and])
        have e1 := beq_yes hl
        clear HV hl
        go_enter Tryd.func74, Tryd.ntmps74
        go_wp2_with fail
        (with_reducible refine Calls.mono CF.out ?_)
        rintro ee w1 ⟨rfl, hb1⟩
        have hb2 := hb.trans (hb1.mono hbs)
        have hal1 := (Below.refl w1.heap.size w1).alloc (Nat.le_refl _) (.cells #[.string nm, .bool true, .bool tl, .int .i64 ar] 117)
        have hb3 := hb2.trans (hal1.mono hb2.size)
        have K1 := Lib.hid ((K0.out.below hb1 (Nat.lt_of_succ_lt hx0)).below hal1 (Nat.lt_of_lt_of_le (Nat.lt_of_succ_lt hx0) hb1.size))
        have X1 := Lib.hid ((X0.out.below hb1 hx0).below hal1 (Nat.lt_of_lt_of_le hx0 hb1.size))
        have hx1 := Nat.lt_of_lt_of_le (Nat.lt_of_lt_of_le hx0 hb1.size) hal1.size
        have Y1 := Lib.hid (BoxV.new w1 [.string nm, .bool true, .bool tl, .int .i64 ar] 117)
        have hy1 : w1.heap.size < (w1.alloc (.cells #[.string nm, .bool true, .bool tl, .int .i64 ar] 117)).heap.size := by rw [World.size_alloc]; omega
        have y0 := Y1.out 0 _ rfl
        have y1 := Y1.out 1 _ rfl
        have y3 := Y1.out 3 _ rfl
        have x1 := X1.out 1 _ rfl
        have x2 := X1.out 2 _ rfl
        have x3 := X1.out 3 _ rfl
        have k0 := K1.out 0 _ rfl
        have k1 := K1.out 1 _ rfl
        have k2 := K1.out 2 _ rfl
        go_wp2_with fail
        generalize w1.alloc (.cells #[.string nm, .bool true, .bool tl, .int .i64 ar] 117) = wb at *
        have e0 := HE0.out _ hb3
        go_quiet (first | (go_at_call 99; exact Calls.quiet_of_same ((MN _).out.mono fun _ _ h => ⟨h.1, h.2.symm⟩)))
        all_goals
          have hb4 := below_drewN hb3 nq
          go_wp2_with fail
          (with_reducible refine Calls.mono (CH _).out ?_)
          rintro ee w5 ⟨rfl, hb5⟩
          have hb6 := hb4.trans (hb5.mono hb4.size)
          have K1d := Lib.hid (show BoxV (wb.drewN nq) w.heap.size _ from K1.out)
          have X1d := Lib.hid (show BoxV (wb.drewN nq) (w.heap.size + 1) _ from X1.out)
          have K5 := Lib.hid (K1d.out.below hb5 (Nat.lt_of_succ_lt hx1))
          have X5 := Lib.hid (X1d.out.below hb5 hx1)
          clear x1 x2 x3 k0 k1 k2
          have x2 := X5.out 2 _ rfl
          have k0 := K5.out 0 _ rfl
          have k1 := K5.out 1 _ rfl
          have k2 := K5.out 2 _ rfl
          go_wp2_with fail
          (with_reducible refine Calls.mono (CA _ hb6).out ?_)
          rintro ee w9 ⟨rfl, hb9⟩
          have hb10 := hb6.trans (hb9.mono hb6.size)
          go_wp2_with fail
          go_ret
          exact ⟨ret_bool' HW.out.symm, hb10⟩
      · have HW := Lib.hid (show res = false by rw [HV.out, decide_eq_false hl]; rfl)
        have e1 := beq_no hl
        clear HV CA hl
        go_enter Tryd.func74, Tryd.ntmps74
        go_wp2_with fail
        (with_reducible refine Calls.mono CF.out ?_)
        rintro ee w1 ⟨rfl, hb1⟩
        have hb2 := hb.trans (hb1.mono hbs)
        have hal1 := (Below.refl w1.heap.size w1).alloc (Nat.le_refl _) (.cells #[.string nm, .bool true, .bool tl, .int .i64 ar] 117)
        have hb3 := hb2.trans (hal1.mono hb2.size)
        have K1 := Lib.hid ((K0.out.below hb1 (Nat.lt_of_succ_lt hx0)).below hal1 (Nat.lt_of_lt_of_le (Nat.lt_of_succ_lt hx0) hb1.size))
        have X1 := Lib.hid ((X0.out.below hb1 hx0).below hal1 (Nat.lt_of_lt_of_le hx0 hb1.size))
        have hx1 := Nat.lt_of_lt_of_le (Nat.lt_of_lt_of_le hx0 hb1.size) hal1.size
        have Y1 := Lib.hid (BoxV.new w1 [.string nm, .bool true, .bool tl, .int .i64 ar] 117)
        have hy1 : w1.heap.size < (w1.alloc (.cells #[.string nm, .bool true, .bool tl, .int .i64 ar] 117)).heap.size := by rw [World.size_alloc]; omega
        have y0 := Y1.out 0 _ rfl
        have y1 := Y1.out 1 _ rfl
        have y3 := Y1.out 3 _ rfl
        have x1 := X1.out 1 _ rfl
        have x2 := X1.out 2 _ rfl
        have x3 := X1.out 3 _ rfl
        have k0 := K1.out 0 _ rfl
        have k1 := K1.out 1 _ rfl
        have k2 := K1.out 2 _ rfl
        go_wp2_with fail
        generalize w1.alloc (.cells #[.string nm, .bool true, .bool tl, .int .i64 ar] 117) = wb at *
        have e0 := HE0.out _ hb3
        go_quiet (first | (go_at_call 99; exact Calls.quiet_of_same ((MN _).out.mono fun _ _ h => ⟨h.1, h.2.symm⟩)))
        all_goals
          have hb4 := below_drewN hb3 nq
          go_wp2_with fail
          (with_reducible refine Calls.mono (CH _).out ?_)
          rintro ee w5 ⟨rfl, hb5⟩
          have hb6 := hb4.trans (hb5.mono hb4.size)
          have K1d := Lib.hid (show BoxV (wb.drewN nq) w.heap.size _ from K1.out)
          have X1d := Lib.hid (show BoxV (wb.drewN nq) (w.heap.size + 1) _ from X1.out)
          have K5 := Lib.hid (K1d.out.below hb5 (Nat.lt_of_succ_lt hx1))
          have X5 := Lib.hid (X1d.out.below hb5 hx1)
          clear x1 x2 x3 k0 k1 k2
          have x2 := X5.out 2 _ rfl
          have k0 := K5.out 0 _ rfl
          have k1 := K5.out 1 _ rfl
          have k2 := K5.out 2 _ rfl
          go_wp2_with fail
          go_ret
          exact ⟨ret_bool' HW.out.symm, hb6⟩
  rw [if_neg h14] at HW0
  have hwant : ar = want := HW0.out.symm
  subst hwant
  clear HW0 HMO HMK HE
  have q14 := beq_no h14
  clear h14
  cases mk
  · rw [if_neg (by simp)] at HV
    by_cases ht : to = -1
    · rw [decide_eq_true ht, Bool.true_and] at HV
      have q3 := beq_yes ht
      clear ht
      by_cases hl : (args.length : Int) = ar
      · have HW := Lib.hid (show res = za by rw [HV.out, decide_eq_true hl, Bool.true_and])
        have e1 := beq_yes hl
        clear HV hl
        go_enter Tryd.func74, Tryd.ntmps74
        go_wp2_with fail
        (with_reducible refine Calls.mono CF.out ?_)
        rintro ee w1 ⟨rfl, hb1⟩
        have hb2 := hb.trans (hb1.mono hbs)
        have hal1 := (Below.refl w1.heap.size w1).alloc (Nat.le_refl _) (.cells #[.string nm, .bool false, .bool tl, .int .i64 ar] 117)
        have hb3 := hb2.trans (hal1.mono hb2.size)
        have K1 := Lib.hid ((K0.out.below hb1 (Nat.lt_of_succ_lt hx0)).below hal1 (Nat.lt_of_lt_of_le (Nat.lt_of_succ_lt hx0) hb1.size))
        have X1 := Lib.hid ((X0.out.below hb1 hx0).below hal1 (Nat.lt_of_lt_of_le hx0 hb1.size))
        have hx1 := Nat.lt_of_lt_of_le (Nat.lt_of_lt_of_le hx0 hb1.size) hal1.size
        have Y1 := Lib.hid (BoxV.new w1 [.string nm, .bool false, .bool tl, .int .i64 ar] 117)
        have hy1 : w1.heap.size < (w1.alloc (.cells #[.string nm, .bool false, .bool tl, .int .i64 ar] 117)).heap.size := by rw [World.size_alloc]; omega
        have y0 := Y1.out 0 _ rfl
        have y1 := Y1.out 1 _ rfl
        have y3 := Y1.out 3 _ rfl
        have x1 := X1.out 1 _ rfl
        have x2 := X1.out 2 _ rfl
        have x3 := X1.out 3 _ rfl
        have k0 := K1.out 0 _ rfl
        have k1 := K1.out 1 _ rfl
        have k2 := K1.out 2 _ rfl
        go_wp2_with fail
        generalize w1.alloc (.cells #[.string nm, .bool false, .bool tl, .int .i64 ar] 117) = wb at *
        go_quiet (first | (go_at_call 99; exact Calls.quiet_of_same ((MN _).out.mono fun _ _ h => ⟨h.1, h.2.symm⟩)))
        all_goals
          have hb4 := below_drewN hb3 nq
          go_wp2_with fail
          (with_reducible refine Calls.mono (CA _ hb4).out ?_)
          rintro ee w9 ⟨rfl, hb9⟩
          have hb10 := hb4.trans (hb9.mono hb4.size)
          go_wp2_with fail
          go_ret
          exact ⟨ret_bool' HW.out.symm, hb10⟩
      · have HW := Lib.hid (show res = false by rw [HV.out, decide_eq_false hl]; rfl)
        have e1 := beq_no hl
        clear HV CA hl
        go_enter Tryd.func74, Tryd.ntmps74
        go_wp2_with fail
        (with_reducible refine Calls.mono CF.out ?_)
        rintro ee w1 ⟨rfl, hb1⟩
        have hb2 := hb.trans (hb1.mono hbs)
        have hal1 := (Below.refl w1.heap.size w1).alloc (Nat.le_refl _) (.cells #[.string nm, .bool false, .bool tl, .int .i64 ar] 117)
        have hb3 := hb2.trans (hal1.mono hb2.size)
        have K1 := Lib.hid ((K0.out.below hb1 (Nat.lt_of_succ_lt hx0)).below hal1 (Nat.lt_of_lt_of_le (Nat.lt_of_succ_lt hx0) hb1.size))
        have X1 := Lib.hid ((X0.out.below hb1 hx0).below hal1 (Nat.lt_of_lt_of_le hx0 hb1.size))
        have hx1 := Nat.lt_of_lt_of_le (Nat.lt_of_lt_of_le hx0 hb1.size) hal1.size
        have Y1 := Lib.hid (BoxV.new w1 [.string nm, .bool false, .bool tl, .int .i64 ar] 117)
        have hy1 : w1.heap.size < (w1.alloc (.cells #[.string nm, .bool false, .bool tl, .int .i64 ar] 117)).heap.size := by rw [World.size_alloc]; omega
        have y0 := Y1.out 0 _ rfl
        have y1 := Y1.out 1 _ rfl
        have y3 := Y1.out 3 _ rfl
        have x1 := X1.out 1 _ rfl
        have x2 := X1.out 2 _ rfl
        have x3 := X1.out 3 _ rfl
        have k0 := K1.out 0 _ rfl
        have k1 := K1.out 1 _ rfl
        have k2 := K1.out 2 _ rfl
        go_wp2_with fail
        generalize w1.alloc (.cells #[.string nm, .bool false, .bool tl, .int .i64 ar] 117) = wb at *
        go_quiet (first | (go_at_call 99; exact Calls.quiet_of_same ((MN _).out.mono fun _ _ h => ⟨h.1, h.2.symm⟩)))
        all_goals
          have hb4 := below_drewN hb3 nq
          go_wp2_with fail
          go_ret
          exact ⟨ret_bool' HW.out.symm, hb4⟩
    · have HW := Lib.hid (show res = false by rw [HV.out, decide_eq_false ht]; rfl)
      have q3 := beq_no ht
      clear HV CA ht
      go_enter Tryd.func74, Tryd.ntmps74
      go_wp2_with fail
      (with_reducible refine Calls.mono CF.out ?_)
      rintro ee w1 ⟨rfl, hb1⟩
      have hb2 := hb.trans (hb1.mono hbs)
      have hal1 := (Below.refl w1.heap.size w1).alloc (Nat.le_refl _) (.cells #[.string nm, .bool false, .bool tl, .int .i64 ar] 117)
      have hb3 := hb2.trans (hal1.mono hb2.size)
      have K1 := Lib.hid ((K0.out.below hb1 (Nat.lt_of_succ_lt hx0)).below hal1 (Nat.lt_of_lt_of_le (Nat.lt_of_succ_lt hx0) hb1.size))
      have X1 := Lib.hid ((X0.out.below hb1 hx0).below hal1 (Nat.lt_of_lt_of_le hx0 hb1.size))
      have hx1 := Nat.lt_of_lt_of_le (Nat.lt_of_lt_of_le hx0 hb1.size) hal1.size
      have Y1 := Lib.hid (BoxV.new w1 [.string nm, .bool false, .bool tl, .int .i64 ar] 117)
      have hy1 : w1.heap.size < (w1.alloc (.cells #[.string nm, .bool false, .bool tl, .int .i64 ar] 117)).heap.size := by rw [World.size_alloc]; omega
      have y0 := Y1.out 0 _ rfl
      have y1 := Y1.out 1 _ rfl
      have y3 := Y1.out 3 _ rfl
      have x1 := X1.out 1 _ rfl
      have x2 := X1.out 2 _ rfl
      have x3 := X1.out 3 _ rfl
      have k0 := K1.out 0 _ rfl
      have k1 := K1.out 1 _ rfl
      have k2 := K1.out 2 _ rfl
      go_wp2_with fail
      generalize w1.alloc (.cells #[.string nm, .bool false, .bool tl, .int .i64 ar] 117) = wb at *
      go_quiet (first | (go_at_call 99; exact Calls.quiet_of_same ((MN _).out.mono fun _ _ h => ⟨h.1, h.2.symm⟩)))
      all_goals
        have hb4 := below_drewN hb3 nq
        go_wp2_with fail
        go_ret
        exact ⟨ret_bool' HW.out.symm, hb4⟩
  · rw [if_pos rfl] at HV
    cases zt
    · have HW := Lib.hid (show res = false by rw [HV.out]; rfl)
      clear HV CA
      go_enter Tryd.func74, Tryd.ntmps74
      go_wp2_with fail
      (with_reducible refine Calls.mono CF.out ?_)
      rintro ee w1 ⟨rfl, hb1⟩
      have hb2 := hb.trans (hb1.mono hbs)
      have hal1 := (Below.refl w1.heap.size w1).alloc (Nat.le_refl _) (.cells #[.string nm, .bool true, .bool tl, .int .i64 ar] 117)
      have hb3 := hb2.trans (hal1.mono hb2.size)
      have K1 := Lib.hid ((K0.out.below hb1 (Nat.lt_of_succ_lt hx0)).below hal1 (Nat.lt_of_lt_of_le (Nat.lt_of_succ_lt hx0) hb1.size))
      have X1 := Lib.hid ((X0.out.below hb1 hx0).below hal1 (Nat.lt_of_lt_of_le hx0 hb1.size))
      have hx1 := Nat.lt_of_lt_of_le (Nat.lt_of_lt_of_le hx0 hb1.size) hal1.size
      have Y1 := Lib.hid (BoxV.new w1 [.string nm, .bool true, .bool tl, .int .i64 ar] 117)
      have hy1 : w1.heap.size < (w1.alloc (.cells #[.string nm, .bool true, .bool tl, .int .i64 ar] 117)).heap.size := by rw [World.size_alloc]; omega
      have y0 := Y1.out 0 _ rfl
      have y1 := Y1.out 1 _ rfl
      have y3 := Y1.out 3 _ rfl
      have x1 := X1.out 1 _ rfl
      have x2 := X1.out 2 _ rfl
      have x3 := X1.out 3 _ rfl
      have k0 := K1.out 0 _ rfl
      have k1 := K1.out 1 _ rfl
      have k2 := K1.out 2 _ rfl
      go_wp2_with fail
      generalize w1.alloc (.cells #[.string nm, .bool true, .bool tl, .int .i64 ar] 117) = wb at *
      go_quiet (first | (go_at_call 99; exact Calls.quiet_of_same ((MN _).out.mono fun _ _ h => ⟨h.1, h.2.symm⟩)))
      all_goals
        have hb4 := below_drewN hb3 nq
        go_wp2_with fail
        (with_reducible refine Calls.mono (CH _).out ?_)
        rintro ee w5 ⟨rfl, hb5⟩
        have hb6 := hb4.trans (hb5.mono hb4.size)
        have K1d := Lib.hid (show BoxV (wb.drewN nq) w.heap.size _ from K1.out)
        have X1d := Lib.hid (show BoxV (wb.drewN nq) (w.heap.size + 1) _ from X1.out)
        have K5 := Lib.hid (K1d.out.below hb5 (Nat.lt_of_succ_lt hx1))
        have X5 := Lib.hid (X1d.out.below hb5 hx1)
        clear x1 x2 x3 k0 k1 k2
        have x2 := X5.out 2 _ rfl
        have k0 := K5.out 0 _ rfl
        have k1 := K5.out 1 _ rfl
        have k2 := K5.out 2 _ rfl
        go_wp2_with fail
        go_ret
        exact ⟨ret_bool' HW.out.symm, hb6⟩
    · rw [Bool.true_and] at HV
      by_cases hl : (args.length : Int) = ar
      · have HW := Lib.hid (show res = za by rw [HV.out, decide_eq_true hl, Bool.true_and])
        have e1 := beq_yes hl
        clear HV hl
        go_enter Tryd.func74, Tryd.ntmps74
        go_wp2_with fail
        (with_reducible refine Calls.mono CF.out ?_)
        rintro ee w1 ⟨rfl, hb1⟩
        have hb2 := hb.trans (hb1.mono hbs)
        have hal1 := (Below.refl w1.heap.size w1).alloc (Nat.le_refl _) (.cells #[.string nm, .bool true, .bool tl, .int .i64 ar] 117)
        have hb3 := hb2.trans (hal1.mono hb2.size)
        have K1 := Lib.hid ((K0.out.below hb1 (Nat.lt_of_succ_lt hx0)).below hal1 (Nat.lt_of_lt_of_le (Nat.lt_of_succ_lt hx0) hb1.size))
        have X1 := Lib.hid ((X0.out.below hb1 hx0).below hal1 (Nat.lt_of_lt_of_le hx0 hb1.size))
        have hx1 := Nat.lt_of_lt_of_le (Nat.lt_of_lt_of_le hx0 hb1.size) hal1.size
        have Y1 := Lib.hid (BoxV.new w1 [.string nm, .bool true, .bool tl, .int .i64 ar] 117)
        have hy1 : w1.heap.size < (w1.alloc (.cells #[.string nm, .bool true, .bool tl, .int .i64 ar] 117)).heap.size := by rw [World.size_alloc]; omega
        have y0 := Y1.out 0 _ rfl
        have y1 := Y1.out 1 _ rfl
        have y3 := Y1.out 3 _ rfl
        have x1 := X1.out 1 _ rfl
        have x2 := X1.out 2 _ rfl
        have x3 := X1.out 3 _ rfl
        have k0 := K1.out 0 _ rfl
        have k1 := K1.out 1 _ rfl
        have k2 := K1.out 2 _ rfl
        go_wp2_with fail
        generalize w1.alloc (.cells #[.string nm, .bool true, .bool tl, .int .i64 ar] 117) = wb at *
        go_quiet (first | (go_at_call 99; exact Calls.quiet_of_same ((MN _).out.mono fun _ _ h => ⟨h.1, h.2.symm⟩)))
        all_goals
          have hb4 := below_drewN hb3 nq
          go_wp2_with fail
          (with_reducible refine Calls.mono (CH _).out ?_)
          rintro ee w5 ⟨rfl, hb5⟩
          have hb6 := hb4.trans (hb5.mono hb4.size)
          have K1d := Lib.hid (show BoxV (wb.drewN nq) w.heap.size _ from K1.out)
          have X1d := Lib.hid (show BoxV (wb.drewN nq) (w.heap.size + 1) _ from X1.out)
          have K5 := Lib.hid (K1d.out.below hb5 (Nat.lt_of_succ_lt hx1))
          have X5 := Lib.hid (X1d.out.below hb5 hx1)
          clear x1 x2 x3 k0 k1 k2
          have x2 := X5.out 2 _ rfl
          have k0 := K5.out 0 _ rfl
          have k1 := K5.out 1 _ rfl
          have k2 := K5.out 2 _ rfl
          go_wp2_with fail
          (with_reducible refine Calls.mono (CA _ hb6).out ?_)
          rintro ee w9 ⟨rfl, hb9⟩
          have hb10 := hb6.trans (hb9.mono hb6.size)
          go_wp2_with fail
          go_ret
          exact ⟨ret_bool' HW.out.symm, hb10⟩
      · have HW := Lib.hid (show res = false by rw [HV.out, decide_eq_false hl]; rfl)
        have e1 := beq_no hl
        clear HV CA hl
        go_enter Tryd.func74, Tryd.ntmps74
        go_wp2_with fail
        (with_reducible refine Calls.mono CF.out ?_)
        rintro ee w1 ⟨rfl, hb1⟩
        have hb2 := hb.trans (hb1.mono hbs)
        have hal1 := (Below.refl w1.heap.size w1).alloc (Nat.le_refl _) (.cells #[.string nm, .bool true, .bool tl, .int .i64 ar] 117)
        have hb3 := hb2.trans (hal1.mono hb2.size)
        have K1 := Lib.hid ((K0.out.below hb1 (Nat.lt_of_succ_lt hx0)).below hal1 (Nat.lt_of_lt_of_le (Nat.lt_of_succ_lt hx0) hb1.size))
        have X1 := Lib.hid ((X0.out.below hb1 hx0).below hal1 (Nat.lt_of_lt_of_le hx0 hb1.size))
        have hx1 := Nat.lt_of_lt_of_le (Nat.lt_of_lt_of_le hx0 hb1.size) hal1.size
        have Y1 := Lib.hid (BoxV.new w1 [.string nm, .bool true, .bool tl, .int .i64 ar] 117)
        have hy1 : w1.heap.size < (w1.alloc (.cells #[.string nm, .bool true, .bool tl, .int .i64 ar] 117)).heap.size := by rw [World.size_alloc]; omega
        have y0 := Y1.out 0 _ rfl
        have y1 := Y1.out 1 _ rfl
        have y3 := Y1.out 3 _ rfl
        have x1 := X1.out 1 _ rfl
        have x2 := X1.out 2 _ rfl
        have x3 := X1.out 3 _ rfl
        have k0 := K1.out 0 _ rfl
        have k1 := K1.out 1 _ rfl
        have k2 := K1.out 2 _ rfl
        go_wp2_with fail
        generalize w1.alloc (.cells #[.string nm, .bool true, .bool tl, .int .i64 ar] 117) = wb at *
        go_quiet (first | (go_at_call 99; exact Calls.quiet_of_same ((MN _).out.mono fun _ _ h => ⟨h.1, h.2.symm⟩)))
        all_goals
          have hb4 := below_drewN hb3 nq
          go_wp2_with fail
          (with_reducible refine Calls.mono (CH _).out ?_)
          rintro ee w5 ⟨rfl, hb5⟩
          have hb6 := hb4.trans (hb5.mono hb4.size)
          have K1d := Lib.hid (show BoxV (wb.drewN nq) w.heap.size _ from K1.out)
          have X1d := Lib.hid (show BoxV (wb.drewN nq) (w.heap.size + 1) _ from X1.out)
          have K5 := Lib.hid (K1d.out.below hb5 (Nat.lt_of_succ_lt hx1))
          have X5 := Lib.hid (X1d.out.below hb5 hx1)
          clear x1 x2 x3 k0 k1 k2
          have x2 := X5.out 2 _ rfl
          have k0 := K5.out 0 _ rfl
          have k1 := K5.out 1 _ rfl
          have k2 := K5.out 2 _ rfl
          go_wp2_with fail
          go_ret
          exact ⟨ret_bool' HW.out.symm, hb6⟩
end Go.Proofs.YtomhomnibikceaaDoor
