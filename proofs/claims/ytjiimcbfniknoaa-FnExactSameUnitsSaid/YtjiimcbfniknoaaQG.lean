/-
  Blocks and rows of them compared by the program.
-/
import Derived.Test.YtjiimcbfniknoaaQF
namespace Go.Proofs.Ytjiimcbfniknoaa
open Go.RowKit
set_option maxRecDepth 100000

theorem bk_ext (x y : Bk) : x = y ↔ x.jump = y.jump ∧ x.on = y.on ∧ x.next = y.next ∧ x.phis = y.phis ∧ x.ins = y.ins := by
  constructor
  · rintro rfl; exact ⟨rfl, rfl, rfl, rfl, rfl⟩
  · rintro ⟨hjump, hon, hnext, hphis, hins⟩; cases x; cases y; simp_all
open Classical in
set_option maxHeartbeats 4000000 in
theorem sameBlocks_any (x y : Bk) (v v' : Value) (w : World) (hV : BkV w (Lt w.heap.size) x v) (hV' : BkV w (Lt w.heap.size) y v') (hk : bulkBk x ≤ 2000000) (hl : bulkBk y ≤ 2000000) :
    Calls Try.prog 55 #[v, v'] w (BoolB (decide (x = y)) w) := by
  obtain ⟨Aphis, cphis, Ains, cins, Anext, cnext, rfl, rAphis, rAins, rAnext⟩ := hV
  obtain ⟨Bphis, dphis, Bins, dins, Bnext, dnext, rfl, rBphis, rBins, rBnext⟩ := hV'
  unfold bulkBk at hk hl
  have hb := two_boxes w (.cells #[.slice Aphis x.phis.length cphis, .slice Ains x.ins.length cins, .int .i64 x.jump, .int .i64 x.on, .slice Anext x.next.length cnext] 65) (.cells #[.slice Bphis y.phis.length dphis, .slice Bins y.ins.length dins, .int .i64 y.jump, .int .i64 y.on, .slice Bnext y.next.length dnext] 65)
  have HX := Lib.hid (bk_ext x y)
  have Enext := Lib.hid (fun (W : World) (h : Below w.heap.size w W) => equalNums_any x.next y.next Anext Bnext cnext dnext W (rAnext.on h h.size) (rBnext.on h h.size) (by omega) (by omega))
  have Dnext := Lib.hid (show decide (x.next = y.next) = true ↔ x.next = y.next from decide_eq_true_iff)
  have Ephis := Lib.hid (fun (W : World) (h : Below w.heap.size w W) => equalPh_any x.phis y.phis Aphis Bphis cphis dphis W (rAphis.on h h.size) (rBphis.on h h.size) (by omega) (by omega))
  have Dphis := Lib.hid (show decide (x.phis = y.phis) = true ↔ x.phis = y.phis from decide_eq_true_iff)
  have Eins := Lib.hid (fun (W : World) (h : Below w.heap.size w W) => equalIk_any x.ins y.ins Ains Bins cins dins W (rAins.on h h.size) (rBins.on h h.size) (by omega) (by omega))
  have Dins := Lib.hid (show decide (x.ins = y.ins) = true ↔ x.ins = y.ins from decide_eq_true_iff)
  clear hk hl rAphis rBphis rAins rBins rAnext rBnext
  generalize decide (x.phis = y.phis) = zphis at *
  generalize decide (x.ins = y.ins) = zins at *
  generalize decide (x.next = y.next) = znext at *
  generalize hz : decide (x = y) = z at *
  have HZ := Lib.hid (show z = true ↔ x = y by rw [← hz]; exact decide_eq_true_iff)
  clear hz
  by_cases hjump : x.jump = y.jump
  case neg =>
    have pjump : (x.jump == y.jump) = false := beq_no hjump
    have qjump : (x.jump != y.jump) = true := by rw [bne, pjump]; rfl
    have HC := Lib.hid hjump
    have HB := Lib.hid hb
    clear hjump
    go_enter Try.func55, Try.ntmps55
    go_wp2_with fail
    go_ret
    refine ⟨ret_bool ?_, HB.out⟩
    cases z with
    | false => rfl
    | true => exact absurd (HX.out.1 (HZ.out.1 rfl)) (fun h => by obtain ⟨gjump, gon, gnext, gphis, gins⟩ := h; exact HC.out gjump)
  have pjump : (x.jump == y.jump) = true := beq_yes hjump
  have qjump : (x.jump != y.jump) = false := by rw [bne, pjump]; rfl
  have Hjump := Lib.hid hjump
  clear hjump
  by_cases hon : x.on = y.on
  case neg =>
    have pon : (x.on == y.on) = false := beq_no hon
    have qon : (x.on != y.on) = true := by rw [bne, pon]; rfl
    have HC := Lib.hid hon
    have HB := Lib.hid hb
    clear hon
    go_enter Try.func55, Try.ntmps55
    go_wp2_with fail
    go_ret
    refine ⟨ret_bool ?_, HB.out⟩
    cases z with
    | false => rfl
    | true => exact absurd (HX.out.1 (HZ.out.1 rfl)) (fun h => by obtain ⟨gjump, gon, gnext, gphis, gins⟩ := h; exact HC.out gon)
  have pon : (x.on == y.on) = true := beq_yes hon
  have qon : (x.on != y.on) = false := by rw [bne, pon]; rfl
  have Hon := Lib.hid hon
  clear hon
  obtain ⟨S, U, _⟩ := two_new w [.slice Aphis x.phis.length cphis, .slice Ains x.ins.length cins, .int .i64 x.jump, .int .i64 x.on, .slice Anext x.next.length cnext] [.slice Bphis y.phis.length dphis, .slice Bins y.ins.length dins, .int .i64 y.jump, .int .i64 y.on, .slice Bnext y.next.length dnext] 65 65
  have hl : w.heap.size + 1 < ((w.alloc (.cells #[.slice Aphis x.phis.length cphis, .slice Ains x.ins.length cins, .int .i64 x.jump, .int .i64 x.on, .slice Anext x.next.length cnext] 65)).alloc (.cells #[.slice Bphis y.phis.length dphis, .slice Bins y.ins.length dins, .int .i64 y.jump, .int .i64 y.on, .slice Bnext y.next.length dnext] 65)).heap.size := by rw [World.size_alloc, World.size_alloc]; omega
  have HS := Lib.hid S
  have HU := Lib.hid U
  clear S U
  go_enter Try.func55, Try.ntmps55
  go_wp2_with fail
  (with_reducible refine Calls.mono (Enext.out _ hb) ?_)
  rintro ee u0 ⟨rfl, hu0⟩
  have hb0 := hb.trans (hu0.mono hb.size)
  have HS0 := Lib.hid (HS.out.below hu0 (by omega))
  have HU0 := Lib.hid (HU.out.below hu0 hl)
  have hl0 := Nat.lt_of_lt_of_le hl hu0.size
  clear hl HS HU
  have hl := hl0
  have HS := HS0
  have HU := HU0
  clear hl0 HS0 HU0
  have k0 := HS.out 0 _ rfl
  have m0 := HU.out 0 _ rfl
  have k1 := HS.out 1 _ rfl
  have m1 := HU.out 1 _ rfl
  have k2 := HS.out 2 _ rfl
  have m2 := HU.out 2 _ rfl
  have k3 := HS.out 3 _ rfl
  have m3 := HU.out 3 _ rfl
  have k4 := HS.out 4 _ rfl
  have m4 := HU.out 4 _ rfl
  clear hu0
  cases znext with
  | false =>
    have HB := Lib.hid hb0
    go_wp2_with fail
    go_ret
    refine ⟨ret_bool ?_, HB.out⟩
    cases z with
    | false => rfl
    | true => exact absurd (HX.out.1 (HZ.out.1 rfl)) (fun h => by obtain ⟨gjump, gon, gnext, gphis, gins⟩ := h; exact by have := Dnext.out.2 gnext; cases this)
  | true =>
  have Gnext := Lib.hid (Dnext.out.1 rfl)
  go_wp2_with fail
  (with_reducible refine Calls.mono (Ephis.out _ hb0) ?_)
  rintro ee u1 ⟨rfl, hu1⟩
  have hb1 := hb0.trans (hu1.mono hb0.size)
  have HS1 := Lib.hid (HS.out.below hu1 (by omega))
  have HU1 := Lib.hid (HU.out.below hu1 hl)
  have hl1 := Nat.lt_of_lt_of_le hl hu1.size
  clear hl HS HU
  have hl := hl1
  have HS := HS1
  have HU := HU1
  clear hl1 HS1 HU1
  clear k0 m0 k1 m1 k2 m2 k3 m3 k4 m4
  have k0 := HS.out 0 _ rfl
  have m0 := HU.out 0 _ rfl
  have k1 := HS.out 1 _ rfl
  have m1 := HU.out 1 _ rfl
  have k2 := HS.out 2 _ rfl
  have m2 := HU.out 2 _ rfl
  have k3 := HS.out 3 _ rfl
  have m3 := HU.out 3 _ rfl
  have k4 := HS.out 4 _ rfl
  have m4 := HU.out 4 _ rfl
  clear hu1
  cases zphis with
  | false =>
    have HB := Lib.hid hb1
    go_wp2_with fail
    go_ret
    refine ⟨ret_bool ?_, HB.out⟩
    cases z with
    | false => rfl
    | true => exact absurd (HX.out.1 (HZ.out.1 rfl)) (fun h => by obtain ⟨gjump, gon, gnext, gphis, gins⟩ := h; exact by have := Dphis.out.2 gphis; cases this)
  | true =>
  have Gphis := Lib.hid (Dphis.out.1 rfl)
  go_wp2_with fail
  (with_reducible refine Calls.mono (Eins.out _ hb1) ?_)
  rintro ee u2 ⟨rfl, hu2⟩
  have hb2 := hb1.trans (hu2.mono hb1.size)
  clear hl HS HU k0 m0 k1 m1 k2 m2 k3 m3 k4 m4
  clear hu2
  cases zins with
  | false =>
    have HB := Lib.hid hb2
    go_wp2_with fail
    go_ret
    refine ⟨ret_bool ?_, HB.out⟩
    cases z with
    | false => rfl
    | true => exact absurd (HX.out.1 (HZ.out.1 rfl)) (fun h => by obtain ⟨gjump, gon, gnext, gphis, gins⟩ := h; exact by have := Dins.out.2 gins; cases this)
  | true =>
  have Gins := Lib.hid (Dins.out.1 rfl)
  go_wp2_with fail
  go_ret
  refine ⟨ret_bool ?_, hb2⟩
  exact (HZ.out.2 (HX.out.2 ⟨Hjump.out, Hon.out, Gnext.out, Gphis.out, Gins.out⟩)).symm
open Classical in
set_option maxHeartbeats 4000000 in
theorem equalBk_any (ks ls : List Bk) (A B : Option Addr) (c d : Nat) (w : World) (hA : BkS w (Lt w.heap.size) ks A) (hB : BkS w (Lt w.heap.size) ls B) (hk : bulkR bulkBk ks ≤ 2000000) (hl : bulkR bulkBk ls ≤ 2000000) :
    Calls Try.prog 54 #[.slice A ks.length c, .slice B ls.length d, .func (.func 55) #[] #[]] w (BoolB (decide (ks = ls)) w) := by
  have hn : ks.length ≤ 2000000 := Nat.le_trans (length_le_bulkR bulkBk ks) hk
  have hn' : ls.length ≤ 2000000 := Nat.le_trans (length_le_bulkR bulkBk ls) hl
  by_cases h4 : ks.length = ls.length
  · have p4 : ((ks.length : Int) != (ls.length : Int)) = false := by rw [h4]; simp
    have HL := Lib.hid h4
    have HA := Lib.hid hA
    have HB := Lib.hid hB
    have HKS := Lib.hid hk
    have HLS := Lib.hid hl
    clear h4 hA hB hk hl
    go_enter Try.func54, Try.ntmps54
    go_wp2_with fail
    go_loopw [17] (fun i wr => ∃ (k : Nat), k ≤ ks.length ∧ i = .int .i64 k ∧ (∀ j, (h : j < ks.length) → (h' : j < ls.length) → j < k → ks[j] = ls[j]) ∧ Below w.heap.size w wr) (fun i _ => ks.length - (intOf i).toNat)
    case atStart => exact ⟨0, Nat.zero_le _, rfl, fun j _ _ hj => absurd hj (by omega), Below.refl _ _⟩
    case round =>
      obtain ⟨k, hk, rfl, hall, hb⟩ := hrel
      have hbs := hb.size
      by_cases hltk : k < ks.length
      · have hlt' : k < ls.length := by have := HL.out; omega
        have hltk' : (k : Int) < ls.length := by omega
        obtain ⟨b, o, rfl, hSb, ⟨⟨Aphis, aphis, c0, rphis⟩, ⟨Ains, ains, c1, rins⟩, c2, c3, ⟨Anext, anext, c4, rnext⟩⟩⟩ := (HA.out.on hb hbs).at_ hltk
        obtain ⟨b', o', rfl, hSb', ⟨⟨Bphis, ephis, d0, sphis⟩, ⟨Bins, eins, d1, sins⟩, d2, d3, ⟨Bnext, enext, d4, snext⟩⟩⟩ := (HB.out.on hb hbs).at_ hlt'
        have hm1 : bulkBk ks[k] ≤ 2000000 := Nat.le_trans (Nat.le_of_lt (bulkR_mem (f := bulkBk) (List.getElem_mem hltk))) HKS.out
        have hm2 : bulkBk ls[k] ≤ 2000000 := Nat.le_trans (Nat.le_of_lt (bulkR_mem (f := bulkBk) (List.getElem_mem hlt'))) HLS.out
        have CK := fun W (h : Below wr.heap.size wr W) => sameBlocks_any ks[k] ls[k] _ _ W ⟨Aphis, aphis, Ains, ains, Anext, anext, rfl, rphis.on h h.size, rins.on h h.size, rnext.on h h.size⟩ ⟨Bphis, ephis, Bins, eins, Bnext, enext, rfl, sphis.on h h.size, sins.on h h.size, snext.on h h.size⟩ hm1 hm2
        have HAL := Lib.hid hall; clear hall hm1 hm2 rphis sphis rins sins rnext snext
        generalize hs0 : ks[k] = x at *
        generalize hs1 : ls[k] = x' at *
        have HS := Lib.hid hs0; clear hs0
        have HS' := Lib.hid hs1; clear hs1
        have HN : Hid (decide (x = x') = false → ks ≠ ls) := Lib.hid fun hd e => by
          have h1 := HS.out
          have h2 := HS'.out
          simp only [e] at h1
          exact of_decide_eq_false hd (by rw [← h1, ← h2])
        have HD : Hid (decide (x = x') = true → x = x') := Lib.hid of_decide_eq_true
        generalize decide (x = x') = z at *
        have hal1 := (Below.refl wr.heap.size wr).alloc (Nat.le_refl _) (.cells #[.slice Aphis x.phis.length aphis, .slice Ains x.ins.length ains, .int .i64 x.jump, .int .i64 x.on, .slice Anext x.next.length anext] 65)
        replace d0 := (hal1.cell (p := ⟨b', o' + k * 5, none⟩) hSb').trans d0
        replace d1 := (hal1.cell (p := ⟨b', o' + k * 5 + 1, none⟩) hSb').trans d1
        replace d2 := (hal1.cell (p := ⟨b', o' + k * 5 + 2, none⟩) hSb').trans d2
        replace d3 := (hal1.cell (p := ⟨b', o' + k * 5 + 3, none⟩) hSb').trans d3
        replace d4 := (hal1.cell (p := ⟨b', o' + k * 5 + 4, none⟩) hSb').trans d4
        obtain ⟨S, U, hal⟩ := two_new wr [.slice Aphis x.phis.length aphis, .slice Ains x.ins.length ains, .int .i64 x.jump, .int .i64 x.on, .slice Anext x.next.length anext] [.slice Bphis x'.phis.length ephis, .slice Bins x'.ins.length eins, .int .i64 x'.jump, .int .i64 x'.on, .slice Bnext x'.next.length enext] 65 65
        have s0 := S 0 _ rfl
        have t0 := U 0 _ rfl
        have s1 := S 1 _ rfl
        have t1 := U 1 _ rfl
        have s2 := S 2 _ rfl
        have t2 := U 2 _ rfl
        have s3 := S 3 _ rfl
        have t3 := U 3 _ rfl
        have s4 := S 4 _ rfl
        have t4 := U 4 _ rfl
        have CK1 := Lib.hid (CK _ hal)
        have hbal := hb.trans (hal.mono hbs)
        clear CK S U
        go_wp2_with fail
        (with_reducible refine Calls.mono CK1.out ?_)
        rintro ee w3 ⟨rfl, hb3⟩
        have hb4 := hbal.trans (hb3.mono hbal.size)
        clear hb3 hal1 hal hbal CK1 c0 d0 s0 t0 c1 d1 s1 t1 c2 d2 s2 t2 c3 d3 s3 t3 c4 d4 s4 t4
        cases z
        · have HF := Lib.hid (HN.out (by trivial))
          go_wp2_with fail
          go_ret
          exact ⟨ret_bool (by rw [eq_comm, decide_eq_false_iff_not]; exact HF.out), hb4⟩
        · go_wp2_with fail
          go_roundw
          case rel => exact ⟨k + 1, by omega, by go_num, fun j h1 h2 hjk => by
            by_cases e : j = k
            · subst e; exact (HS.out.trans (HD.out (by trivial))).trans HS'.out.symm
            · exact HAL.out j h1 h2 (by omega), hb4⟩
          case measure => simp only [intOf]; omega
      · obtain rfl : k = ks.length := by omega
        have HAL := Lib.hid hall
        clear hall
        go_wp2_with fail
        go_ret
        refine ⟨ret_bool ?_, hb⟩
        rw [eq_comm, decide_eq_true_eq]
        exact List.ext_getElem HL.out (fun j h1 h2 => HAL.out j h1 h2 h1)
  · have p4 : ((ks.length : Int) == (ls.length : Int)) = false := beq_no (by omega)
    have p5 : ((ks.length : Int) != (ls.length : Int)) = true := by rw [bne, p4]; rfl
    have HC := Lib.hid h4; clear h4
    go_enter Try.func54, Try.ntmps54
    go_wp2_with fail
    go_ret
    exact ⟨ret_bool (by rw [eq_comm, decide_eq_false_iff_not]; intro h; exact HC.out (by rw [h])), Below.refl _ _⟩
end Go.Proofs.Ytjiimcbfniknoaa
