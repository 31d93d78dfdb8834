/-
  What the program asks of the phis of a block, of its end; sizes; how many instructions.
-/
import Derived.Test.YtomhomnibikceaaDoorNM
namespace Go.Proofs.YtomhomnibikceaaDoor
open Go.RowKit
set_option maxRecDepth 100000

theorem bulk_block {c : Cd} {b : Nat} (h : b < c.blocks.length) (hn : bulkCd c ≤ 1048576) : bulkBk c.blocks[b] ≤ 1048576 := by
  have := bulkR_mem (f := bulkBk) (List.getElem_mem h)
  unfold bulkCd at hn; omega
theorem bulk_parts {x : Bk} (h : bulkBk x ≤ 1048576) : bulkR bulkPh x.phis ≤ 1048576 ∧ bulkR bulkIk x.ins ≤ 1048576 ∧ x.next.length ≤ 1048576 := by
  unfold bulkBk at h; omega
theorem own_len {base : Nat} {w : World} {l : List Int} {v : Value} (h : OwnN base w l v) : ∃ A c, v = .slice A l.length c := by
  obtain ⟨A, c, e, _⟩ := h.slice
  exact ⟨A, c, e⟩
set_option maxHeartbeats 4000000 in
theorem phisFit_any (c : Cd) (A : Option Addr) (cap : Nat) (b : Nat) (hb0 : b < c.blocks.length) (w : World) (hR : BkS w (Lt w.heap.size) c.blocks A) (hn : bulkCd c ≤ 1048576) :
    Calls Tryd.prog 71 #[cdv c A cap, .int .i64 b] w (BoolB (c.blocks[b].phis.all (phiB c b)) w) := by
  have hln : c.blocks.length ≤ 1048576 := by have := length_le_bulkR bulkBk c.blocks; unfold bulkCd at hn; omega
  obtain ⟨bb, o, hA, hB, ⟨A0, c0, d0, r0⟩, _⟩ := hR.at_ hb0
  subst hA
  have hb : Below w.heap.size w (w.alloc (.cells #[.int .i64 c.params, .int .i64 c.regs, .slice (some ⟨bb, o, none⟩) c.blocks.length cap] 44)) := (Below.refl _ _).alloc (Nat.le_refl _) _
  have hl0 : w.heap.size < (w.alloc (.cells #[.int .i64 c.params, .int .i64 c.regs, .slice (some ⟨bb, o, none⟩) c.blocks.length cap] 44)).heap.size := by rw [World.size_alloc]; omega
  have K0 := Lib.hid (BoxV.new w [.int .i64 c.params, .int .i64 c.regs, .slice (some ⟨bb, o, none⟩) c.blocks.length cap] 44)
  have d1 := (hb.cell (p := ⟨bb, o + b * 5, none⟩) hB).trans d0
  have hbs := hb.size
  have HP := (bulk_parts (bulk_block hb0 hn)).1
  have hpl : c.blocks[b].phis.length ≤ 1048576 := by have := length_le_bulkR bulkPh c.blocks[b].phis; omega
  have CP := fun W (h : Below w.heap.size w W) => Lib.hid (implPreds_any c (some ⟨bb, o, none⟩) cap b W (hR.on h h.size) hn)
  unfold PRet predsI at CP
  rw [if_pos ⟨by omega, by omega⟩] at CP
  have hpr : (predsL c b).length ≤ 1048576 := by have := predsTo_len c.blocks b c.blocks.length; unfold predsL; omega
  have HPE := Lib.hid (show ∀ p, phiB c b p = (decide (b ≠ 0) && phi1 c (predsL c b).length p) from fun _ => rfl)
  have CF := fun W gb (h : Below w.heap.size w W) (hg : BoxV W w.heap.size [.int .i64 c.params, .int .i64 c.regs, .slice (some ⟨bb, o, none⟩) c.blocks.length cap]) (hlg : w.heap.size < W.heap.size) (hh : BoxV W gb [.int .i64 (predsL c b).length]) (hlh : gb < W.heap.size) =>
    Lib.hid (allPhi_of (phi1 c (predsL c b).length) c.blocks[b].phis hpl A0 c0 w.heap.size gb W (r0.on h h.size) (fun i hi v W' h' hv => phiFit_any c (some ⟨bb, o, none⟩) cap _ v (predsL c b).length w.heap.size gb W' (hg.below h' hlg) (Nat.lt_of_lt_of_le hlg h'.size) (hh.below h' hlh) (Nat.lt_of_lt_of_le hlh h'.size) hv (by
      have := bulkR_mem (f := bulkPh) (List.getElem_mem hi)
      unfold bulkPh at this HP; omega)))
  unfold cdv at CP ⊢
  generalize predsL c b = pl at *
  generalize c.blocks[b].phis = ph at *
  have HV := Lib.hid (show ph.all (phiB c b) = (decide (ph = []) || (decide (b ≠ 0) && ph.all (phi1 c pl.length))) from by
    by_cases h0 : ph = []
    · subst h0; simp
    · rw [decide_eq_false h0, Bool.false_or]
      by_cases hb : b ≠ 0
      · rw [decide_eq_true hb, Bool.true_and]
        congr 1
        funext p
        rw [HPE.out, decide_eq_true hb, Bool.true_and]
      · rw [decide_eq_false hb, Bool.false_and]
        cases ph with
        | nil => exact absurd rfl h0
        | cons x xs => rw [List.all_cons, HPE.out, decide_eq_false hb]; rfl)
  generalize ph.all (phiB c b) = res at *
  generalize hz : ph.all (phi1 c pl.length) = z at *
  clear hz r0 hR hn HP d0 HPE
  by_cases hp0 : ph.length = 0
  · have HV2 := Lib.hid (show res = true by rw [HV.out, decide_eq_true (List.length_eq_zero_iff.1 hp0)]; rfl)
    clear HV CP CF
    rw [hp0] at d1
    go_enter Tryd.func71, Tryd.ntmps71
    go_wp2_with fail
    go_ret
    exact ⟨ret_bool' HV2.out.symm, hb⟩
  · have q1 : ((ph.length : Int) == 0) = false := beq_no (by omega)
    have hp1 : ph ≠ [] := fun h => hp0 (by rw [h]; rfl)
    by_cases hbz : b = 0
    · have HV2 := Lib.hid (show res = false by rw [HV.out, decide_eq_false hp1, decide_eq_false (fun h => h hbz)]; rfl)
      have q2 : ((b : Int) == 0) = true := beq_yes (by omega)
      have q3 : ((b : Int) != 0) = false := by rw [bne, q2]; rfl
      clear HV CF hbz
      go_enter Tryd.func71, Tryd.ntmps71
      go_wp2_with fail
      (with_reducible refine Calls.mono (CP _ hb).out ?_)
      rintro ee w1 ⟨⟨v, rfl, hown⟩, hb1⟩
      obtain ⟨A5, c5, rfl⟩ := own_len hown
      have hb2 := hb.trans (hb1.mono hbs)
      have hb3 := hb2.alloc hb2.size (.cells #[.int .i64 (pl.length : Int)] 3)
      clear hown
      go_wp2_with fail
      go_ret
      exact ⟨ret_bool' HV2.out.symm, hb3⟩
    · have HV2 := Lib.hid (show res = z by rw [HV.out, decide_eq_false hp1, decide_eq_true hbz, Bool.false_or, Bool.true_and])
      have q2 : ((b : Int) == 0) = false := beq_no (by omega)
      have q3 : ((b : Int) != 0) = true := by rw [bne, q2]; rfl
      clear HV
      go_enter Tryd.func71, Tryd.ntmps71
      go_wp2_with fail
      (with_reducible refine Calls.mono (CP _ hb).out ?_)
      rintro ee w1 ⟨⟨v, rfl, hown⟩, hb1⟩
      obtain ⟨A5, c5, rfl⟩ := own_len hown
      have hb2 := hb.trans (hb1.mono hbs)
      have K1 := K0.out.below hb1 hl0
      have hl1 := Nat.lt_of_lt_of_le hl0 hb1.size
      have hal := (Below.refl w1.heap.size w1).alloc (Nat.le_refl _) (.cells #[.int .i64 (pl.length : Int)] 3)
      have hb3 := hb2.trans (hal.mono hb2.size)
      have hl2 := Nat.lt_of_lt_of_le hl1 hal.size
      have K2 := K1.below hal hl1
      have X2 := BoxV.new w1 [.int .i64 (pl.length : Int)] 3
      have CF2 := CF (w1.alloc (.cells #[.int .i64 (pl.length : Int)] 3)) w1.heap.size hb3 K2 hl2 X2 (by rw [World.size_alloc]; omega)
      clear hown CF K1 K2 X2
      go_wp2_with fail
      (with_reducible refine Calls.mono CF2.out ?_)
      rintro ee w2 ⟨rfl, hb4⟩
      have hb5 := hb3.trans (hb4.mono hb3.size)
      go_wp2_with fail
      go_ret
      exact ⟨ret_bool' HV2.out.symm, hb5⟩

theorem jname_iff (op : Int) : jName op = ⟨#[]⟩ ↔ ¬ (1 ≤ op ∧ op ≤ 3) := by
  by_cases h : 0 ≤ op ∧ op < 4
  · obtain ⟨k, rfl⟩ := Int.eq_ofNat_of_zero_le h.1
    have h : k = 0 ∨ k = 1 ∨ k = 2 ∨ k = 3 := by omega
    rcases h with rfl | rfl | rfl | rfl
    · exact ⟨fun _ => by omega, fun _ => rfl⟩
    · exact ⟨fun h => (by cases h), fun h => absurd (by omega) h⟩
    · exact ⟨fun h => (by cases h), fun h => absurd (by omega) h⟩
    · exact ⟨fun h => (by cases h), fun h => absurd (by omega) h⟩
  · have h' : op < 0 ∨ 4 ≤ op := by omega
    have := jmp_none h'
    unfold jmpV at this
    injection this with this
    have := congrArg (fun a => a[0]?) this
    simp at this
    exact ⟨fun _ => by omega, fun _ => this⟩
theorem iname_iff (op : Int) : iName op = ⟨#[]⟩ ↔ ¬ (1 ≤ op ∧ op ≤ 14) := by
  by_cases h : 0 ≤ op ∧ op < 15
  · obtain ⟨k, rfl⟩ := Int.eq_ofNat_of_zero_le h.1
    by_cases h0 : k = 0
    · subst h0; exact ⟨fun _ => by omega, fun _ => rfl⟩
    · have h : k = 1 ∨ k = 2 ∨ k = 3 ∨ k = 4 ∨ k = 5 ∨ k = 6 ∨ k = 7 ∨ k = 8 ∨ k = 9 ∨ k = 10 ∨ k = 11 ∨ k = 12 ∨ k = 13 ∨ k = 14 := by omega
      refine ⟨fun h' => ?_, fun h' => absurd (by omega) h'⟩
      rcases h with rfl | rfl | rfl | rfl | rfl | rfl | rfl | rfl | rfl | rfl | rfl | rfl | rfl | rfl <;> cases h'
  · have h' : op < 0 ∨ 15 ≤ op := by omega
    have := ins_none h'
    unfold insV at this
    injection this with this
    have := congrArg (fun a => a[0]?) this
    simp at this
    exact ⟨fun _ => by omega, fun _ => this⟩
set_option maxHeartbeats 4000000 in
theorem jumpFits_any (c : Cd) (A : Option Addr) (cap : Nat) (x : Bk) (v : Value) (w : World) (hV : BkV w (Lt w.heap.size) x v) (hn : bulkBk x ≤ 1048576) (hc : c.blocks.length ≤ 1048576) (T : JmpT w) :
    Calls Tryd.prog 70 #[cdv c A cap, v] w (BoolB (jumpB c x) w) := by
  have hnx := (bulk_parts hn).2.2
  obtain ⟨A0, c0, A1, c1, A4, c4, rfl, r0, r1, r4⟩ := hV
  obtain ⟨x0, x1, jp, on, nx⟩ := x
  clear hn r0 r1
  dsimp only at *
  have CF := jumpForm_any jp
  have CH := fun W => Lib.hid (hasReg_any c A cap on W)
  have CN := fun W g (h : Below w.heap.size w W) hg hlg => Lib.hid (allNext_any c nx hnx A4 c4 A cap W (r4.on h h.size) g hg hlg)
  have HV := Lib.hid (show jumpB c ⟨x0, x1, jp, on, nx⟩ = (decide (1 ≤ jp ∧ jp ≤ 3) && ((if jUses jp then regB c on else decide (on = 0)) && (decide ((nx.length : Int) = jNext jp) && nx.all (nextB c)))) from rfl)
  generalize jumpB c ⟨x0, x1, jp, on, nx⟩ = res at *
  generalize nx.all (nextB c) = zn at *
  generalize regB c on = zo at *
  unfold cdv at CH ⊢
  unfold jmpV at CF
  have HN := Lib.hid (jname_iff jp)
  obtain ⟨p, g, bs⟩ := c
  dsimp only at *
  have K0 := Lib.hid ((BoxV.new w [.int .i64 p, .int .i64 g, .slice A bs.length cap] 44).below ((Below.refl _ _).alloc (Nat.le_refl _) (.cells #[.slice A0 x0.length c0, .slice A1 x1.length c1, .int .i64 jp, .int .i64 on, .slice A4 nx.length c4] 56)) (by rw [World.size_alloc]; omega))
  have sz1 : (w.alloc (.cells #[.int .i64 p, .int .i64 g, .slice A bs.length cap] 44)).heap.size = w.heap.size + 1 := World.size_alloc _ _
  have X0 := BoxV.new (w.alloc (.cells #[.int .i64 p, .int .i64 g, .slice A bs.length cap] 44)) [.slice A0 x0.length c0, .slice A1 x1.length c1, .int .i64 jp, .int .i64 on, .slice A4 nx.length c4] 56
  rw [sz1] at X0
  replace X0 := Lib.hid X0
  have hx0 : w.heap.size + 1 < ((w.alloc (.cells #[.int .i64 p, .int .i64 g, .slice A bs.length cap] 44)).alloc (.cells #[.slice A0 x0.length c0, .slice A1 x1.length c1, .int .i64 jp, .int .i64 on, .slice A4 nx.length c4] 56)).heap.size := by rw [World.size_alloc, sz1]; omega
  have hb := two_boxes w (.cells #[.int .i64 p, .int .i64 g, .slice A bs.length cap] 44) (.cells #[.slice A0 x0.length c0, .slice A1 x1.length c1, .int .i64 jp, .int .i64 on, .slice A4 nx.length c4] 56)
  have hbs := hb.size
  replace CF := CF _ (T.below hb)
  clear T sz1 r4
  generalize jName jp = nm at *
  generalize jUses jp = us at *
  generalize jNext jp = nt at *
  replace CF := Lib.hid CF

  by_cases hj : 1 ≤ jp ∧ jp ≤ 3
  · have hne : nm ≠ ⟨#[]⟩ := fun h => HN.out.1 h hj
    have s1 : ¬ nm.toList = [] := fun h => hne (str_yes (by rw [h]; simp))
    have s2 : nm.toList.isEmpty = false := by rw [List.isEmpty_eq_false_iff]; exact s1
    rw [decide_eq_true hj, Bool.true_and] at HV
    cases us
    · by_cases ho : on = 0
      · subst ho
        rw [if_neg (by simp), decide_eq_true rfl, Bool.true_and] at HV
        by_cases hl : (nx.length : Int) = nt
        · have HW := Lib.hid (show res = zn by rw [HV.out, decide_eq_true hl, Bool.true_and])
          have e1 := beq_yes hl
          clear HV CH hl hj hne HN
          go_enter Tryd.func70, Tryd.ntmps70
          go_wp2_with fail
          (with_reducible refine Calls.mono CF.out ?_)
          rintro ee w1 ⟨rfl, hb1⟩
          have hb2 := hb.trans (hb1.mono hbs)
          have hal := (Below.refl w1.heap.size w1).alloc (Nat.le_refl _) (.cells #[.string nm, .bool false, .int .i64 nt] 121)
          have hb3 := hb2.trans (hal.mono hb2.size)
          have K1 := Lib.hid ((K0.out.below hb1 (Nat.lt_of_succ_lt hx0)).below hal (Nat.lt_of_lt_of_le (Nat.lt_of_succ_lt hx0) hb1.size))
          have X1 := Lib.hid ((X0.out.below hb1 hx0).below hal (Nat.lt_of_lt_of_le hx0 hb1.size))
          have hx1 := Nat.lt_of_lt_of_le (Nat.lt_of_lt_of_le hx0 hb1.size) hal.size
          have Y1 := Lib.hid (BoxV.new w1 [.string nm, .bool false, .int .i64 nt] 121)
          have hy1 : w1.heap.size < (w1.alloc (.cells #[.string nm, .bool false, .int .i64 nt] 121)).heap.size := by rw [World.size_alloc]; omega
          have x3 := X1.out 3 _ rfl
          have x4 := X1.out 4 _ rfl
          have k0 := K1.out 0 _ rfl
          have k1 := K1.out 1 _ rfl
          have k2 := K1.out 2 _ rfl
          go_wp2_with fail
          (with_reducible refine Calls.mono (CN _ _ hb3 K1.out (Nat.lt_of_succ_lt hx1)).out ?_)
          rintro ee w9 ⟨rfl, hb9⟩
          have hb10 := hb3.trans (hb9.mono hb3.size)
          go_wp2_with fail
          go_ret
          exact ⟨ret_bool' HW.out.symm, hb10⟩
        · have HW := Lib.hid (show res = false by rw [HV.out, decide_eq_false hl]; rfl)
          have e1 := beq_no hl
          clear HV CH CN hl hj hne HN
          go_enter Tryd.func70, Tryd.ntmps70
          go_wp2_with fail
          (with_reducible refine Calls.mono CF.out ?_)
          rintro ee w1 ⟨rfl, hb1⟩
          have hb2 := hb.trans (hb1.mono hbs)
          have hal := (Below.refl w1.heap.size w1).alloc (Nat.le_refl _) (.cells #[.string nm, .bool false, .int .i64 nt] 121)
          have hb3 := hb2.trans (hal.mono hb2.size)
          have K1 := Lib.hid ((K0.out.below hb1 (Nat.lt_of_succ_lt hx0)).below hal (Nat.lt_of_lt_of_le (Nat.lt_of_succ_lt hx0) hb1.size))
          have X1 := Lib.hid ((X0.out.below hb1 hx0).below hal (Nat.lt_of_lt_of_le hx0 hb1.size))
          have hx1 := Nat.lt_of_lt_of_le (Nat.lt_of_lt_of_le hx0 hb1.size) hal.size
          have Y1 := Lib.hid (BoxV.new w1 [.string nm, .bool false, .int .i64 nt] 121)
          have hy1 : w1.heap.size < (w1.alloc (.cells #[.string nm, .bool false, .int .i64 nt] 121)).heap.size := by rw [World.size_alloc]; omega
          have x3 := X1.out 3 _ rfl
          have x4 := X1.out 4 _ rfl
          have k0 := K1.out 0 _ rfl
          have k1 := K1.out 1 _ rfl
          have k2 := K1.out 2 _ rfl
          go_wp2_with fail
          go_ret
          exact ⟨ret_bool' HW.out.symm, hb3⟩
      · have HW := Lib.hid (show res = false by rw [HV.out, if_neg (by simp), decide_eq_false ho]; rfl)
        have e1 := beq_no ho
        clear HV CH CN ho hj hne HN
        go_enter Tryd.func70, Tryd.ntmps70
        go_wp2_with fail
        (with_reducible refine Calls.mono CF.out ?_)
        rintro ee w1 ⟨rfl, hb1⟩
        have hb2 := hb.trans (hb1.mono hbs)
        have hal := (Below.refl w1.heap.size w1).alloc (Nat.le_refl _) (.cells #[.string nm, .bool false, .int .i64 nt] 121)
        have hb3 := hb2.trans (hal.mono hb2.size)
        have K1 := Lib.hid ((K0.out.below hb1 (Nat.lt_of_succ_lt hx0)).below hal (Nat.lt_of_lt_of_le (Nat.lt_of_succ_lt hx0) hb1.size))
        have X1 := Lib.hid ((X0.out.below hb1 hx0).below hal (Nat.lt_of_lt_of_le hx0 hb1.size))
        have hx1 := Nat.lt_of_lt_of_le (Nat.lt_of_lt_of_le hx0 hb1.size) hal.size
        have Y1 := Lib.hid (BoxV.new w1 [.string nm, .bool false, .int .i64 nt] 121)
        have hy1 : w1.heap.size < (w1.alloc (.cells #[.string nm, .bool false, .int .i64 nt] 121)).heap.size := by rw [World.size_alloc]; omega
        have x3 := X1.out 3 _ rfl
        have x4 := X1.out 4 _ rfl
        have k0 := K1.out 0 _ rfl
        have k1 := K1.out 1 _ rfl
        have k2 := K1.out 2 _ rfl
        go_wp2_with fail
        go_ret
        exact ⟨ret_bool' HW.out.symm, hb3⟩
    · rw [if_pos rfl] at HV
      cases zo
      · have HW := Lib.hid (show res = false by rw [HV.out]; rfl)
        clear HV CN hj hne HN
        go_enter Tryd.func70, Tryd.ntmps70
        go_wp2_with fail
        (with_reducible refine Calls.mono CF.out ?_)
        rintro ee w1 ⟨rfl, hb1⟩
        have hb2 := hb.trans (hb1.mono hbs)
        have hal := (Below.refl w1.heap.size w1).alloc (Nat.le_refl _) (.cells #[.string nm, .bool true, .int .i64 nt] 121)
        have hb3 := hb2.trans (hal.mono hb2.size)
        have K1 := Lib.hid ((K0.out.below hb1 (Nat.lt_of_succ_lt hx0)).below hal (Nat.lt_of_lt_of_le (Nat.lt_of_succ_lt hx0) hb1.size))
        have X1 := Lib.hid ((X0.out.below hb1 hx0).below hal (Nat.lt_of_lt_of_le hx0 hb1.size))
        have hx1 := Nat.lt_of_lt_of_le (Nat.lt_of_lt_of_le hx0 hb1.size) hal.size
        have Y1 := Lib.hid (BoxV.new w1 [.string nm, .bool true, .int .i64 nt] 121)
        have hy1 : w1.heap.size < (w1.alloc (.cells #[.string nm, .bool true, .int .i64 nt] 121)).heap.size := by rw [World.size_alloc]; omega
        have x3 := X1.out 3 _ rfl
        have x4 := X1.out 4 _ rfl
        have k0 := K1.out 0 _ rfl
        have k1 := K1.out 1 _ rfl
        have k2 := K1.out 2 _ rfl
        go_wp2_with fail
        (with_reducible refine Calls.mono (CH _).out ?_)
        rintro ee w2 ⟨rfl, hb4⟩
        have hb5 := hb3.trans (hb4.mono hb3.size)
        have X2 := Lib.hid (X1.out.below hb4 hx1)
        have Y2 := Lib.hid (Y1.out.below hb4 hy1)
        have K2 := Lib.hid (K1.out.below hb4 (Nat.lt_of_succ_lt hx1))
        have hx2 := Nat.lt_of_lt_of_le hx1 hb4.size
        have hy2 := Nat.lt_of_lt_of_le hy1 hb4.size
        clear x3 x4 k0 k1 k2
        have x4 := X2.out 4 _ rfl
        have y0 := Y2.out 0 _ rfl
        have y2 := Y2.out 2 _ rfl
        go_wp2_with fail
        go_ret
        exact ⟨ret_bool' HW.out.symm, hb5⟩
      · rw [Bool.true_and] at HV
        by_cases hl : (nx.length : Int) = nt
        · have HW := Lib.hid (show res = zn by rw [HV.out, decide_eq_true hl, Bool.true_and])
          have e1 := beq_yes hl
          clear HV hl hj hne HN
          go_enter Tryd.func70, Tryd.ntmps70
          go_wp2_with fail
          (with_reducible refine Calls.mono CF.out ?_)
          rintro ee w1 ⟨rfl, hb1⟩
          have hb2 := hb.trans (hb1.mono hbs)
          have hal := (Below.refl w1.heap.size w1).alloc (Nat.le_refl _) (.cells #[.string nm, .bool true, .int .i64 nt] 121)
          have hb3 := hb2.trans (hal.mono hb2.size)
          have K1 := Lib.hid ((K0.out.below hb1 (Nat.lt_of_succ_lt hx0)).below hal (Nat.lt_of_lt_of_le (Nat.lt_of_succ_lt hx0) hb1.size))
          have X1 := Lib.hid ((X0.out.below hb1 hx0).below hal (Nat.lt_of_lt_of_le hx0 hb1.size))
          have hx1 := Nat.lt_of_lt_of_le (Nat.lt_of_lt_of_le hx0 hb1.size) hal.size
          have Y1 := Lib.hid (BoxV.new w1 [.string nm, .bool true, .int .i64 nt] 121)
          have hy1 : w1.heap.size < (w1.alloc (.cells #[.string nm, .bool true, .int .i64 nt] 121)).heap.size := by rw [World.size_alloc]; omega
          have x3 := X1.out 3 _ rfl
          have x4 := X1.out 4 _ rfl
          have k0 := K1.out 0 _ rfl
          have k1 := K1.out 1 _ rfl
          have k2 := K1.out 2 _ rfl
          go_wp2_with fail
          (with_reducible refine Calls.mono (CH _).out ?_)
          rintro ee w2 ⟨rfl, hb4⟩
          have hb5 := hb3.trans (hb4.mono hb3.size)
          have X2 := Lib.hid (X1.out.below hb4 hx1)
          have Y2 := Lib.hid (Y1.out.below hb4 hy1)
          have K2 := Lib.hid (K1.out.below hb4 (Nat.lt_of_succ_lt hx1))
          have hx2 := Nat.lt_of_lt_of_le hx1 hb4.size
          have hy2 := Nat.lt_of_lt_of_le hy1 hb4.size
          clear x3 x4 k0 k1 k2
          have x4 := X2.out 4 _ rfl
          have y0 := Y2.out 0 _ rfl
          have y2 := Y2.out 2 _ rfl
          go_wp2_with fail
          (with_reducible refine Calls.mono (CN _ _ hb5 K2.out (Nat.lt_of_succ_lt hx2)).out ?_)
          rintro ee w9 ⟨rfl, hb9⟩
          have hb10 := hb5.trans (hb9.mono hb5.size)
          go_wp2_with fail
          go_ret
          exact ⟨ret_bool' HW.out.symm, hb10⟩
        · have HW := Lib.hid (show res = false by rw [HV.out, decide_eq_false hl]; rfl)
          have e1 := beq_no hl
          clear HV CN hl hj hne HN
          go_enter Tryd.func70, Tryd.ntmps70
          go_wp2_with fail
          (with_reducible refine Calls.mono CF.out ?_)
          rintro ee w1 ⟨rfl, hb1⟩
          have hb2 := hb.trans (hb1.mono hbs)
          have hal := (Below.refl w1.heap.size w1).alloc (Nat.le_refl _) (.cells #[.string nm, .bool true, .int .i64 nt] 121)
          have hb3 := hb2.trans (hal.mono hb2.size)
          have K1 := Lib.hid ((K0.out.below hb1 (Nat.lt_of_succ_lt hx0)).below hal (Nat.lt_of_lt_of_le (Nat.lt_of_succ_lt hx0) hb1.size))
          have X1 := Lib.hid ((X0.out.below hb1 hx0).below hal (Nat.lt_of_lt_of_le hx0 hb1.size))
          have hx1 := Nat.lt_of_lt_of_le (Nat.lt_of_lt_of_le hx0 hb1.size) hal.size
          have Y1 := Lib.hid (BoxV.new w1 [.string nm, .bool true, .int .i64 nt] 121)
          have hy1 : w1.heap.size < (w1.alloc (.cells #[.string nm, .bool true, .int .i64 nt] 121)).heap.size := by rw [World.size_alloc]; omega
          have x3 := X1.out 3 _ rfl
          have x4 := X1.out 4 _ rfl
          have k0 := K1.out 0 _ rfl
          have k1 := K1.out 1 _ rfl
          have k2 := K1.out 2 _ rfl
          go_wp2_with fail
          (with_reducible refine Calls.mono (CH _).out ?_)
          rintro ee w2 ⟨rfl, hb4⟩
          have hb5 := hb3.trans (hb4.mono hb3.size)
          have X2 := Lib.hid (X1.out.below hb4 hx1)
          have Y2 := Lib.hid (Y1.out.below hb4 hy1)
          have K2 := Lib.hid (K1.out.below hb4 (Nat.lt_of_succ_lt hx1))
          have hx2 := Nat.lt_of_lt_of_le hx1 hb4.size
          have hy2 := Nat.lt_of_lt_of_le hy1 hb4.size
          clear x3 x4 k0 k1 k2
          have x4 := X2.out 4 _ rfl
          have y0 := Y2.out 0 _ rfl
          have y2 := Y2.out 2 _ rfl
          go_wp2_with fail
          go_ret
          exact ⟨ret_bool' HW.out.symm, hb5⟩
  · have hne : nm = ⟨#[]⟩ := HN.out.2 hj
    have HW := Lib.hid (show res = false by rw [HV.out, decide_eq_false hj]; rfl)
    subst hne
    clear HV CN hj HN
    cases us
    · go_enter Tryd.func70, Tryd.ntmps70
      go_wp2_with fail
      (with_reducible refine Calls.mono CF.out ?_)
      rintro ee w1 ⟨rfl, hb1⟩
      have hb2 := hb.trans (hb1.mono hbs)
      have hal := (Below.refl w1.heap.size w1).alloc (Nat.le_refl _) (.cells #[.string ⟨#[]⟩, .bool false, .int .i64 nt] 121)
      have hb3 := hb2.trans (hal.mono hb2.size)
      have K1 := Lib.hid ((K0.out.below hb1 (Nat.lt_of_succ_lt hx0)).below hal (Nat.lt_of_lt_of_le (Nat.lt_of_succ_lt hx0) hb1.size))
      have X1 := Lib.hid ((X0.out.below hb1 hx0).below hal (Nat.lt_of_lt_of_le hx0 hb1.size))
      have hx1 := Nat.lt_of_lt_of_le (Nat.lt_of_lt_of_le hx0 hb1.size) hal.size
      have Y1 := Lib.hid (BoxV.new w1 [.string ⟨#[]⟩, .bool false, .int .i64 nt] 121)
      have hy1 : w1.heap.size < (w1.alloc (.cells #[.string ⟨#[]⟩, .bool false, .int .i64 nt] 121)).heap.size := by rw [World.size_alloc]; omega
      have x3 := X1.out 3 _ rfl
      have x4 := X1.out 4 _ rfl
      have k0 := K1.out 0 _ rfl
      have k1 := K1.out 1 _ rfl
      have k2 := K1.out 2 _ rfl
      go_wp2_with fail
      go_ret
      exact ⟨ret_bool' HW.out.symm, hb3⟩
    · go_enter Tryd.func70, Tryd.ntmps70
      go_wp2_with fail
      (with_reducible refine Calls.mono CF.out ?_)
      rintro ee w1 ⟨rfl, hb1⟩
      have hb2 := hb.trans (hb1.mono hbs)
      have hal := (Below.refl w1.heap.size w1).alloc (Nat.le_refl _) (.cells #[.string ⟨#[]⟩, .bool true, .int .i64 nt] 121)
      have hb3 := hb2.trans (hal.mono hb2.size)
      have K1 := Lib.hid ((K0.out.below hb1 (Nat.lt_of_succ_lt hx0)).below hal (Nat.lt_of_lt_of_le (Nat.lt_of_succ_lt hx0) hb1.size))
      have X1 := Lib.hid ((X0.out.below hb1 hx0).below hal (Nat.lt_of_lt_of_le hx0 hb1.size))
      have hx1 := Nat.lt_of_lt_of_le (Nat.lt_of_lt_of_le hx0 hb1.size) hal.size
      have Y1 := Lib.hid (BoxV.new w1 [.string ⟨#[]⟩, .bool true, .int .i64 nt] 121)
      have hy1 : w1.heap.size < (w1.alloc (.cells #[.string ⟨#[]⟩, .bool true, .int .i64 nt] 121)).heap.size := by rw [World.size_alloc]; omega
      have x3 := X1.out 3 _ rfl
      have x4 := X1.out 4 _ rfl
      have k0 := K1.out 0 _ rfl
      have k1 := K1.out 1 _ rfl
      have k2 := K1.out 2 _ rfl
      go_wp2_with fail
      (with_reducible refine Calls.mono (CH _).out ?_)
      rintro ee w2 ⟨rfl, hb4⟩
      have hb5 := hb3.trans (hb4.mono hb3.size)
      have X2 := Lib.hid (X1.out.below hb4 hx1)
      have Y2 := Lib.hid (Y1.out.below hb4 hy1)
      have K2 := Lib.hid (K1.out.below hb4 (Nat.lt_of_succ_lt hx1))
      have hx2 := Nat.lt_of_lt_of_le hx1 hb4.size
      have hy2 := Nat.lt_of_lt_of_le hy1 hb4.size
      clear x3 x4 k0 k1 k2
      have x4 := X2.out 4 _ rfl
      have y0 := Y2.out 0 _ rfl
      have y2 := Y2.out 2 _ rfl
      go_wp2_with fail
      go_ret
      exact ⟨ret_bool' HW.out.symm, hb5⟩
set_option maxHeartbeats 2000000 in
theorem sizesFit_any (c : Cd) (v : Value) (w : World) (hV : CdV w (Lt w.heap.size) c v) (hc : c.blocks.length ≤ 1048576) :
    Calls Tryd.prog 46 #[v] w (BoolB (sizesB c) w) := by
  obtain ⟨A, cap, rfl, _⟩ := hV
  have HV := Lib.hid (show sizesB c = decide ((0 ≤ c.params ∧ c.params ≤ 3 ∧ c.params ≤ c.regs ∧ c.regs ≤ 300) ∧ 1 ≤ c.blocks.length ∧ c.blocks.length ≤ 160) from rfl)
  generalize sizesB c = res at *
  obtain ⟨p, g, bs⟩ := c
  dsimp only at *
  generalize bs.length = n at *
  have hb : Below w.heap.size w (w.alloc (.cells #[.int .i64 p, .int .i64 g, .slice A n cap] 44)) := (Below.refl _ _).alloc (Nat.le_refl _) _

  by_cases q0 : ¬ (0 ≤ p)
  · have HW := Lib.hid (show res = false by rw [HV.out, decide_eq_false (by omega)])
    clear HV
    go_enter Tryd.func46, Tryd.ntmps46
    go_wp2_with fail
    go_ret
    exact ⟨ret_bool' (by have h := HW.out; subst h; first | rfl | exact decide_eq_true (by omega) | exact decide_eq_false (by omega)), hb⟩
  replace q0 : 0 ≤ p := by omega
  by_cases q1 : ¬ (p ≤ 3)
  · have HW := Lib.hid (show res = false by rw [HV.out, decide_eq_false (by omega)])
    clear HV
    go_enter Tryd.func46, Tryd.ntmps46
    go_wp2_with fail
    go_ret
    exact ⟨ret_bool' (by have h := HW.out; subst h; first | rfl | exact decide_eq_true (by omega) | exact decide_eq_false (by omega)), hb⟩
  replace q1 : p ≤ 3 := by omega
  by_cases q2 : ¬ (p ≤ g)
  · have HW := Lib.hid (show res = false by rw [HV.out, decide_eq_false (by omega)])
    clear HV
    go_enter Tryd.func46, Tryd.ntmps46
    go_wp2_with fail
    go_ret
    exact ⟨ret_bool' (by have h := HW.out; subst h; first | rfl | exact decide_eq_true (by omega) | exact decide_eq_false (by omega)), hb⟩
  replace q2 : p ≤ g := by omega
  by_cases q3 : ¬ (g ≤ 300)
  · have HW := Lib.hid (show res = false by rw [HV.out, decide_eq_false (by omega)])
    clear HV
    go_enter Tryd.func46, Tryd.ntmps46
    go_wp2_with fail
    go_ret
    exact ⟨ret_bool' (by have h := HW.out; subst h; first | rfl | exact decide_eq_true (by omega) | exact decide_eq_false (by omega)), hb⟩
  replace q3 : g ≤ 300 := by omega
  by_cases q4 : ¬ (0 < n)
  · have HW := Lib.hid (show res = false by rw [HV.out, decide_eq_false (by omega)])
    clear HV
    go_enter Tryd.func46, Tryd.ntmps46
    go_wp2_with fail
    go_ret
    exact ⟨ret_bool' (by have h := HW.out; subst h; first | rfl | exact decide_eq_true (by omega) | exact decide_eq_false (by omega)), hb⟩
  replace q4 : 0 < n := by omega
  by_cases q5 : ¬ (n ≤ 160)
  · have HW := Lib.hid (show res = false by rw [HV.out, decide_eq_false (by omega)])
    clear HV
    go_enter Tryd.func46, Tryd.ntmps46
    go_wp2_with fail
    go_ret
    exact ⟨ret_bool' (by have h := HW.out; subst h; first | rfl | exact decide_eq_true (by omega) | exact decide_eq_false (by omega)), hb⟩
  replace q5 : n ≤ 160 := by omega
  have HW := Lib.hid (show res = true by rw [HV.out, decide_eq_true (by omega)])
  clear HV
  go_enter Tryd.func46, Tryd.ntmps46
  go_wp2_with fail
  go_ret
  exact ⟨ret_bool' (by have h := HW.out; subst h; first | rfl | exact decide_eq_true (by omega) | exact decide_eq_false (by omega)), hb⟩
theorem ret_int'' {k : IntKind} {a b : Int} (h : a = b) : Value.int k a = .int k b := by rw [h]
set_option maxHeartbeats 4000000 in
theorem countIns_any (u : Un) (hn : bulkUn u ≤ 1048576) (v : Value) (w : World) (hV : UnV w (Lt w.heap.size) u v) :
    Calls Tryd.prog 47 #[v] w (IntB (cntCL u.codes) w) := by
  obtain ⟨A, cap, rfl, hR⟩ := hV
  obtain ⟨cs⟩ := u
  dsimp only at *
  have hcb : cntCL cs ≤ 1048576 := by have := cntCL_bulk cs; unfold bulkUn at hn; dsimp only at hn; omega
  have hln : cs.length ≤ 1048576 := by have := length_le_bulkR bulkCd cs; unfold bulkUn at hn; dsimp only at hn; omega
  have HLB := Lib.hid (show ∀ i, (h : i < cs.length) → cs[i].blocks.length ≤ 1048576 from fun i h => by
    have := bulkR_mem (f := bulkCd) (List.getElem_mem h)
    have := length_le_bulkR bulkBk cs[i].blocks
    unfold bulkUn at hn; unfold bulkCd at *; dsimp only at hn; omega)
  have HCB := Lib.hid hcb
  clear hn hcb
  have HR := Lib.hid hR
  clear hR
  have hb : Below w.heap.size w (w.alloc (.cells #[.slice A cs.length cap] 30)) := (Below.refl _ _).alloc (Nat.le_refl _) _
  go_enter Tryd.func47, Tryd.ntmps47
  go_wp2_with fail
  generalize w.alloc (.cells #[.slice A cs.length cap] 30) = wa at *
  go_loopw [3, 11] (fun v i wr => ∃ (k : Nat), k ≤ cs.length ∧ i = .int .i64 k ∧ v = .int .i64 (cntCL (cs.take k) : Nat) ∧ Below w.heap.size w wr) (fun _ i _ => cs.length - (intOf i).toNat)
  case atStart => exact ⟨0, Nat.zero_le _, rfl, rfl, hb⟩
  case round =>
    obtain ⟨k, hk, rfl, rfl, hb1⟩ := hrel
    have hbs := hb1.size
    by_cases hlt : k < cs.length
    · obtain ⟨b, o, rfl, hB, d0, d1, A2, c2, d2, r2⟩ := (HR.out.on hb1 hbs).at_ hlt
      have HT := Lib.hid (cntCL_take hlt)
      have HLE := Lib.hid (Nat.le_trans (cntCL_le cs (k + 1)) HCB.out)
      have hlb := HLB.out k hlt
      have HXX := Lib.hid (show cntC cs[k] = cntBL cs[k].blocks from rfl)
      generalize cntC cs[k] = cc at *
      generalize cs[k] = x at *
      obtain ⟨p, g, bs⟩ := x
      dsimp only at *
      have HR2 := Lib.hid r2
      clear r2
      have hal := (Below.refl wr.heap.size wr).alloc (Nat.le_refl _) (.cells #[.int .i64 p, .int .i64 g, .slice A2 bs.length c2] 44)
      have hb2 := hb1.trans (hal.mono hbs)
      generalize hm : cntCL (cs.take k) = m at *
      go_wp2_with fail
      generalize wr.alloc (.cells #[.int .i64 p, .int .i64 g, .slice A2 bs.length c2] 44) = wb at *
      go_loopw [3, 18] (fun v i u => ∃ (n : Nat), n ≤ bs.length ∧ i = .int .i64 n ∧ v = .int .i64 ((m + cntBL (bs.take n) : Nat) : Int) ∧ Below wr.heap.size wr u) (fun _ i _ => bs.length - (intOf i).toNat)
      case atStart => exact ⟨0, Nat.zero_le _, rfl, rfl, hal⟩
      case round =>
        obtain ⟨n, hnn, rfl, rfl, hb3⟩ := hrel
        by_cases hln2 : n < bs.length
        · obtain ⟨b4, o4, rfl, hB4, ⟨A5, c5, f0, _⟩, ⟨A6, c6, f1, _⟩, f2, f3, A7, c7, f4, _⟩ := (HR2.out.on hb3 hb3.size).at_ hln2
          have HT2 := Lib.hid (cntBL_take hln2)
          have hle2 : m + cntBL (bs.take (n + 1)) ≤ 1048576 := by have := HLE.out; have := HT.out; have := HXX.out; have := cntBL_le bs (n + 1); omega
          have HX2 := Lib.hid (show cntB bs[n] = bs[n].ins.length + bs[n].phis.length from rfl)
          generalize cntB bs[n] = cb at *
          generalize bs[n] = y at *
          obtain ⟨y0, y1, y2, y3, y4⟩ := y
          dsimp only at *
          have hle3 : m + cntBL (bs.take n) + (y1.length + y0.length) ≤ 1048576 := by have := HT2.out; have := HX2.out; omega
          have hb4 := hb3.alloc hb3.size (.cells #[.slice A5 y0.length c5, .slice A6 y1.length c6, .int .i64 y2, .int .i64 y3, .slice A7 y4.length c7] 56)
          generalize hm2 : cntBL (bs.take n) = m2 at *
          go_wp2_with fail
          go_roundw
          case rel => exact ⟨n + 1, by omega, by go_num, ret_int'' (by rw [HT2.out, HX2.out]; omega), hb4⟩
          case measure => simp only [intOf]; omega
        · obtain rfl : n = bs.length := by omega
          go_wp2_with fail
          go_roundw
          case rel => exact ⟨k + 1, by omega, by go_num, ret_int'' (by rw [HT.out, HXX.out, List.take_length]), hb1.trans (hb3.mono hbs)⟩
          case measure => simp only [intOf]; omega
    · obtain rfl : k = cs.length := by omega
      have HE := Lib.hid (show cs.take cs.length = cs from List.take_length)
      go_wp2_with fail
      go_ret
      exact ⟨ret_int' (by rw [HE.out]), hb1⟩

end Go.Proofs.YtomhomnibikceaaDoor
