/-
  Phis, instructions and rows of them compared by the program.
-/
import Derived.Test.YtjiimcbfniknoaaQE
namespace Go.Proofs.Ytjiimcbfniknoaa
open Go.RowKit
set_option maxRecDepth 100000

theorem ph_ext (x y : Ph) : x = y ↔ x.to = y.to ∧ x.args = y.args := by
  constructor
  · rintro rfl; exact ⟨rfl, rfl⟩
  · rintro ⟨hto, hargs⟩; cases x; cases y; simp_all
open Classical in
set_option maxHeartbeats 4000000 in
theorem samePhis_any (x y : Ph) (v v' : Value) (w : World) (hV : PhV w (Lt w.heap.size) x v) (hV' : PhV w (Lt w.heap.size) y v') (hk : bulkPh x ≤ 2000000) (hl : bulkPh y ≤ 2000000) :
    Calls Try.prog 76 #[v, v'] w (BoolB (decide (x = y)) w) := by
  obtain ⟨Aargs, cargs, rfl, rAargs⟩ := hV
  obtain ⟨Bargs, dargs, rfl, rBargs⟩ := hV'
  unfold bulkPh at hk hl
  have hb := two_boxes w (.cells #[.int .i64 x.to, .slice Aargs x.args.length cargs] 106) (.cells #[.int .i64 y.to, .slice Bargs y.args.length dargs] 106)
  have HX := Lib.hid (ph_ext x y)
  have Eargs := Lib.hid (fun (W : World) (h : Below w.heap.size w W) => equalNums_any x.args y.args Aargs Bargs cargs dargs W (rAargs.on h h.size) (rBargs.on h h.size) (by omega) (by omega))
  have Dargs := Lib.hid (show decide (x.args = y.args) = true ↔ x.args = y.args from decide_eq_true_iff)
  clear hk hl rAargs rBargs
  generalize decide (x.args = y.args) = zargs at *
  generalize hz : decide (x = y) = z at *
  have HZ := Lib.hid (show z = true ↔ x = y by rw [← hz]; exact decide_eq_true_iff)
  clear hz
  by_cases hto : x.to = y.to
  case neg =>
    have pto : (x.to == y.to) = false := beq_no hto
    have qto : (x.to != y.to) = true := by rw [bne, pto]; rfl
    have HC := Lib.hid hto
    have HB := Lib.hid hb
    clear hto
    go_enter Try.func76, Try.ntmps76
    go_wp2_with fail
    go_ret
    refine ⟨ret_bool ?_, HB.out⟩
    cases z with
    | false => rfl
    | true => exact absurd (HX.out.1 (HZ.out.1 rfl)) (fun h => by obtain ⟨gto, gargs⟩ := h; exact HC.out gto)
  have pto : (x.to == y.to) = true := beq_yes hto
  have qto : (x.to != y.to) = false := by rw [bne, pto]; rfl
  have Hto := Lib.hid hto
  clear hto
  go_enter Try.func76, Try.ntmps76
  go_wp2_with fail
  (with_reducible refine Calls.mono (Eargs.out _ hb) ?_)
  rintro ee u0 ⟨rfl, hu0⟩
  have hb0 := hb.trans (hu0.mono hb.size)
  clear hu0
  cases zargs with
  | false =>
    have HB := Lib.hid hb0
    go_wp2_with fail
    go_ret
    refine ⟨ret_bool ?_, HB.out⟩
    cases z with
    | false => rfl
    | true => exact absurd (HX.out.1 (HZ.out.1 rfl)) (fun h => by obtain ⟨gto, gargs⟩ := h; exact by have := Dargs.out.2 gargs; cases this)
  | true =>
  have Gargs := Lib.hid (Dargs.out.1 rfl)
  go_wp2_with fail
  go_ret
  refine ⟨ret_bool ?_, hb0⟩
  exact (HZ.out.2 (HX.out.2 ⟨Hto.out, Gargs.out⟩)).symm
open Classical in
set_option maxHeartbeats 4000000 in
theorem equalPh_any (ks ls : List Ph) (A B : Option Addr) (c d : Nat) (w : World) (hA : PhS w (Lt w.heap.size) ks A) (hB : PhS w (Lt w.heap.size) ls B) (hk : bulkR bulkPh ks ≤ 2000000) (hl : bulkR bulkPh ls ≤ 2000000) :
    Calls Try.prog 75 #[.slice A ks.length c, .slice B ls.length d, .func (.func 76) #[] #[]] w (BoolB (decide (ks = ls)) w) := by
  have hn : ks.length ≤ 2000000 := Nat.le_trans (length_le_bulkR bulkPh ks) hk
  have hn' : ls.length ≤ 2000000 := Nat.le_trans (length_le_bulkR bulkPh ls) hl
  by_cases h4 : ks.length = ls.length
  · have p4 : ((ks.length : Int) != (ls.length : Int)) = false := by rw [h4]; simp
    have HL := Lib.hid h4
    have HA := Lib.hid hA
    have HB := Lib.hid hB
    have HKS := Lib.hid hk
    have HLS := Lib.hid hl
    clear h4 hA hB hk hl
    go_enter Try.func75, Try.ntmps75
    go_wp2_with fail
    go_loopw [17] (fun i wr => ∃ (k : Nat), k ≤ ks.length ∧ i = .int .i64 k ∧ (∀ j, (h : j < ks.length) → (h' : j < ls.length) → j < k → ks[j] = ls[j]) ∧ Below w.heap.size w wr) (fun i _ => ks.length - (intOf i).toNat)
    case atStart => exact ⟨0, Nat.zero_le _, rfl, fun j _ _ hj => absurd hj (by omega), Below.refl _ _⟩
    case round =>
      obtain ⟨k, hk, rfl, hall, hb⟩ := hrel
      have hbs := hb.size
      by_cases hltk : k < ks.length
      · have hlt' : k < ls.length := by have := HL.out; omega
        have hltk' : (k : Int) < ls.length := by omega
        obtain ⟨b, o, rfl, hSb, ⟨c0, ⟨Aargs, aargs, c1, rargs⟩⟩⟩ := (HA.out.on hb hbs).at_ hltk
        obtain ⟨b', o', rfl, hSb', ⟨d0, ⟨Bargs, eargs, d1, sargs⟩⟩⟩ := (HB.out.on hb hbs).at_ hlt'
        have hm1 : bulkPh ks[k] ≤ 2000000 := Nat.le_trans (Nat.le_of_lt (bulkR_mem (f := bulkPh) (List.getElem_mem hltk))) HKS.out
        have hm2 : bulkPh ls[k] ≤ 2000000 := Nat.le_trans (Nat.le_of_lt (bulkR_mem (f := bulkPh) (List.getElem_mem hlt'))) HLS.out
        have CK := fun W (h : Below wr.heap.size wr W) => samePhis_any ks[k] ls[k] _ _ W ⟨Aargs, aargs, rfl, rargs.on h h.size⟩ ⟨Bargs, eargs, rfl, sargs.on h h.size⟩ hm1 hm2
        have HAL := Lib.hid hall; clear hall hm1 hm2 rargs sargs
        generalize hs0 : ks[k] = x at *
        generalize hs1 : ls[k] = x' at *
        have HS := Lib.hid hs0; clear hs0
        have HS' := Lib.hid hs1; clear hs1
        have HN : Hid (decide (x = x') = false → ks ≠ ls) := Lib.hid fun hd e => by
          have h1 := HS.out
          have h2 := HS'.out
          simp only [e] at h1
          exact of_decide_eq_false hd (by rw [← h1, ← h2])
        have HD : Hid (decide (x = x') = true → x = x') := Lib.hid of_decide_eq_true
        generalize decide (x = x') = z at *
        have hal1 := (Below.refl wr.heap.size wr).alloc (Nat.le_refl _) (.cells #[.int .i64 x.to, .slice Aargs x.args.length aargs] 106)
        replace d0 := (hal1.cell (p := ⟨b', o' + k * 2, none⟩) hSb').trans d0
        replace d1 := (hal1.cell (p := ⟨b', o' + k * 2 + 1, none⟩) hSb').trans d1
        obtain ⟨S, U, hal⟩ := two_new wr [.int .i64 x.to, .slice Aargs x.args.length aargs] [.int .i64 x'.to, .slice Bargs x'.args.length eargs] 106 106
        have s0 := S 0 _ rfl
        have t0 := U 0 _ rfl
        have s1 := S 1 _ rfl
        have t1 := U 1 _ rfl
        have CK1 := Lib.hid (CK _ hal)
        have hbal := hb.trans (hal.mono hbs)
        clear CK S U
        go_wp2_with fail
        (with_reducible refine Calls.mono CK1.out ?_)
        rintro ee w3 ⟨rfl, hb3⟩
        have hb4 := hbal.trans (hb3.mono hbal.size)
        clear hb3 hal1 hal hbal CK1 c0 d0 s0 t0 c1 d1 s1 t1
        cases z
        · have HF := Lib.hid (HN.out (by trivial))
          go_wp2_with fail
          go_ret
          exact ⟨ret_bool (by rw [eq_comm, decide_eq_false_iff_not]; exact HF.out), hb4⟩
        · go_wp2_with fail
          go_roundw
          case rel => exact ⟨k + 1, by omega, by go_num, fun j h1 h2 hjk => by
            by_cases e : j = k
            · subst e; exact (HS.out.trans (HD.out (by trivial))).trans HS'.out.symm
            · exact HAL.out j h1 h2 (by omega), hb4⟩
          case measure => simp only [intOf]; omega
      · obtain rfl : k = ks.length := by omega
        have HAL := Lib.hid hall
        clear hall
        go_wp2_with fail
        go_ret
        refine ⟨ret_bool ?_, hb⟩
        rw [eq_comm, decide_eq_true_eq]
        exact List.ext_getElem HL.out (fun j h1 h2 => HAL.out j h1 h2 h1)
  · have p4 : ((ks.length : Int) == (ls.length : Int)) = false := beq_no (by omega)
    have p5 : ((ks.length : Int) != (ls.length : Int)) = true := by rw [bne, p4]; rfl
    have HC := Lib.hid h4; clear h4
    go_enter Try.func75, Try.ntmps75
    go_wp2_with fail
    go_ret
    exact ⟨ret_bool (by rw [eq_comm, decide_eq_false_iff_not]; intro h; exact HC.out (by rw [h])), Below.refl _ _⟩
theorem ik_ext (x y : Ik) : x = y ↔ x.op = y.op ∧ x.to = y.to ∧ x.n = y.n ∧ x.args = y.args := by
  constructor
  · rintro rfl; exact ⟨rfl, rfl, rfl, rfl⟩
  · rintro ⟨hop, hto, hn, hargs⟩; cases x; cases y; simp_all
open Classical in
set_option maxHeartbeats 4000000 in
theorem sameIns_any (x y : Ik) (v v' : Value) (w : World) (hV : IkV w (Lt w.heap.size) x v) (hV' : IkV w (Lt w.heap.size) y v') (hk : bulkIk x ≤ 2000000) (hl : bulkIk y ≤ 2000000) :
    Calls Try.prog 78 #[v, v'] w (BoolB (decide (x = y)) w) := by
  obtain ⟨Aargs, cargs, rfl, rAargs⟩ := hV
  obtain ⟨Bargs, dargs, rfl, rBargs⟩ := hV'
  unfold bulkIk at hk hl
  have hb := two_boxes w (.cells #[.int .i64 x.op, .int .i64 x.to, .slice Aargs x.args.length cargs, .int .i64 x.n] 27) (.cells #[.int .i64 y.op, .int .i64 y.to, .slice Bargs y.args.length dargs, .int .i64 y.n] 27)
  have HX := Lib.hid (ik_ext x y)
  have Eargs := Lib.hid (fun (W : World) (h : Below w.heap.size w W) => equalNums_any x.args y.args Aargs Bargs cargs dargs W (rAargs.on h h.size) (rBargs.on h h.size) (by omega) (by omega))
  have Dargs := Lib.hid (show decide (x.args = y.args) = true ↔ x.args = y.args from decide_eq_true_iff)
  clear hk hl rAargs rBargs
  generalize decide (x.args = y.args) = zargs at *
  generalize hz : decide (x = y) = z at *
  have HZ := Lib.hid (show z = true ↔ x = y by rw [← hz]; exact decide_eq_true_iff)
  clear hz
  by_cases hop : x.op = y.op
  case neg =>
    have pop : (x.op == y.op) = false := beq_no hop
    have qop : (x.op != y.op) = true := by rw [bne, pop]; rfl
    have HC := Lib.hid hop
    have HB := Lib.hid hb
    clear hop
    go_enter Try.func78, Try.ntmps78
    go_wp2_with fail
    go_ret
    refine ⟨ret_bool ?_, HB.out⟩
    cases z with
    | false => rfl
    | true => exact absurd (HX.out.1 (HZ.out.1 rfl)) (fun h => by obtain ⟨gop, gto, gn, gargs⟩ := h; exact HC.out gop)
  have pop : (x.op == y.op) = true := beq_yes hop
  have qop : (x.op != y.op) = false := by rw [bne, pop]; rfl
  have Hop := Lib.hid hop
  clear hop
  by_cases hto : x.to = y.to
  case neg =>
    have pto : (x.to == y.to) = false := beq_no hto
    have qto : (x.to != y.to) = true := by rw [bne, pto]; rfl
    have HC := Lib.hid hto
    have HB := Lib.hid hb
    clear hto
    go_enter Try.func78, Try.ntmps78
    go_wp2_with fail
    go_ret
    refine ⟨ret_bool ?_, HB.out⟩
    cases z with
    | false => rfl
    | true => exact absurd (HX.out.1 (HZ.out.1 rfl)) (fun h => by obtain ⟨gop, gto, gn, gargs⟩ := h; exact HC.out gto)
  have pto : (x.to == y.to) = true := beq_yes hto
  have qto : (x.to != y.to) = false := by rw [bne, pto]; rfl
  have Hto := Lib.hid hto
  clear hto
  by_cases hn : x.n = y.n
  case neg =>
    have pn : (x.n == y.n) = false := beq_no hn
    have qn : (x.n != y.n) = true := by rw [bne, pn]; rfl
    have HC := Lib.hid hn
    have HB := Lib.hid hb
    clear hn
    go_enter Try.func78, Try.ntmps78
    go_wp2_with fail
    go_ret
    refine ⟨ret_bool ?_, HB.out⟩
    cases z with
    | false => rfl
    | true => exact absurd (HX.out.1 (HZ.out.1 rfl)) (fun h => by obtain ⟨gop, gto, gn, gargs⟩ := h; exact HC.out gn)
  have pn : (x.n == y.n) = true := beq_yes hn
  have qn : (x.n != y.n) = false := by rw [bne, pn]; rfl
  have Hn := Lib.hid hn
  clear hn
  go_enter Try.func78, Try.ntmps78
  go_wp2_with fail
  (with_reducible refine Calls.mono (Eargs.out _ hb) ?_)
  rintro ee u0 ⟨rfl, hu0⟩
  have hb0 := hb.trans (hu0.mono hb.size)
  clear hu0
  cases zargs with
  | false =>
    have HB := Lib.hid hb0
    go_wp2_with fail
    go_ret
    refine ⟨ret_bool ?_, HB.out⟩
    cases z with
    | false => rfl
    | true => exact absurd (HX.out.1 (HZ.out.1 rfl)) (fun h => by obtain ⟨gop, gto, gn, gargs⟩ := h; exact by have := Dargs.out.2 gargs; cases this)
  | true =>
  have Gargs := Lib.hid (Dargs.out.1 rfl)
  go_wp2_with fail
  go_ret
  refine ⟨ret_bool ?_, hb0⟩
  exact (HZ.out.2 (HX.out.2 ⟨Hop.out, Hto.out, Hn.out, Gargs.out⟩)).symm
open Classical in
set_option maxHeartbeats 4000000 in
theorem equalIk_any (ks ls : List Ik) (A B : Option Addr) (c d : Nat) (w : World) (hA : IkS w (Lt w.heap.size) ks A) (hB : IkS w (Lt w.heap.size) ls B) (hk : bulkR bulkIk ks ≤ 2000000) (hl : bulkR bulkIk ls ≤ 2000000) :
    Calls Try.prog 77 #[.slice A ks.length c, .slice B ls.length d, .func (.func 78) #[] #[]] w (BoolB (decide (ks = ls)) w) := by
  have hn : ks.length ≤ 2000000 := Nat.le_trans (length_le_bulkR bulkIk ks) hk
  have hn' : ls.length ≤ 2000000 := Nat.le_trans (length_le_bulkR bulkIk ls) hl
  by_cases h4 : ks.length = ls.length
  · have p4 : ((ks.length : Int) != (ls.length : Int)) = false := by rw [h4]; simp
    have HL := Lib.hid h4
    have HA := Lib.hid hA
    have HB := Lib.hid hB
    have HKS := Lib.hid hk
    have HLS := Lib.hid hl
    clear h4 hA hB hk hl
    go_enter Try.func77, Try.ntmps77
    go_wp2_with fail
    go_loopw [17] (fun i wr => ∃ (k : Nat), k ≤ ks.length ∧ i = .int .i64 k ∧ (∀ j, (h : j < ks.length) → (h' : j < ls.length) → j < k → ks[j] = ls[j]) ∧ Below w.heap.size w wr) (fun i _ => ks.length - (intOf i).toNat)
    case atStart => exact ⟨0, Nat.zero_le _, rfl, fun j _ _ hj => absurd hj (by omega), Below.refl _ _⟩
    case round =>
      obtain ⟨k, hk, rfl, hall, hb⟩ := hrel
      have hbs := hb.size
      by_cases hltk : k < ks.length
      · have hlt' : k < ls.length := by have := HL.out; omega
        have hltk' : (k : Int) < ls.length := by omega
        obtain ⟨b, o, rfl, hSb, ⟨c0, c1, ⟨Aargs, aargs, c2, rargs⟩, c3⟩⟩ := (HA.out.on hb hbs).at_ hltk
        obtain ⟨b', o', rfl, hSb', ⟨d0, d1, ⟨Bargs, eargs, d2, sargs⟩, d3⟩⟩ := (HB.out.on hb hbs).at_ hlt'
        have hm1 : bulkIk ks[k] ≤ 2000000 := Nat.le_trans (Nat.le_of_lt (bulkR_mem (f := bulkIk) (List.getElem_mem hltk))) HKS.out
        have hm2 : bulkIk ls[k] ≤ 2000000 := Nat.le_trans (Nat.le_of_lt (bulkR_mem (f := bulkIk) (List.getElem_mem hlt'))) HLS.out
        have CK := fun W (h : Below wr.heap.size wr W) => sameIns_any ks[k] ls[k] _ _ W ⟨Aargs, aargs, rfl, rargs.on h h.size⟩ ⟨Bargs, eargs, rfl, sargs.on h h.size⟩ hm1 hm2
        have HAL := Lib.hid hall; clear hall hm1 hm2 rargs sargs
        generalize hs0 : ks[k] = x at *
        generalize hs1 : ls[k] = x' at *
        have HS := Lib.hid hs0; clear hs0
        have HS' := Lib.hid hs1; clear hs1
        have HN : Hid (decide (x = x') = false → ks ≠ ls) := Lib.hid fun hd e => by
          have h1 := HS.out
          have h2 := HS'.out
          simp only [e] at h1
          exact of_decide_eq_false hd (by rw [← h1, ← h2])
        have HD : Hid (decide (x = x') = true → x = x') := Lib.hid of_decide_eq_true
        generalize decide (x = x') = z at *
        have hal1 := (Below.refl wr.heap.size wr).alloc (Nat.le_refl _) (.cells #[.int .i64 x.op, .int .i64 x.to, .slice Aargs x.args.length aargs, .int .i64 x.n] 27)
        replace d0 := (hal1.cell (p := ⟨b', o' + k * 4, none⟩) hSb').trans d0
        replace d1 := (hal1.cell (p := ⟨b', o' + k * 4 + 1, none⟩) hSb').trans d1
        replace d2 := (hal1.cell (p := ⟨b', o' + k * 4 + 2, none⟩) hSb').trans d2
        replace d3 := (hal1.cell (p := ⟨b', o' + k * 4 + 3, none⟩) hSb').trans d3
        obtain ⟨S, U, hal⟩ := two_new wr [.int .i64 x.op, .int .i64 x.to, .slice Aargs x.args.length aargs, .int .i64 x.n] [.int .i64 x'.op, .int .i64 x'.to, .slice Bargs x'.args.length eargs, .int .i64 x'.n] 27 27
        have s0 := S 0 _ rfl
        have t0 := U 0 _ rfl
        have s1 := S 1 _ rfl
        have t1 := U 1 _ rfl
        have s2 := S 2 _ rfl
        have t2 := U 2 _ rfl
        have s3 := S 3 _ rfl
        have t3 := U 3 _ rfl
        have CK1 := Lib.hid (CK _ hal)
        have hbal := hb.trans (hal.mono hbs)
        clear CK S U
        go_wp2_with fail
        (with_reducible refine Calls.mono CK1.out ?_)
        rintro ee w3 ⟨rfl, hb3⟩
        have hb4 := hbal.trans (hb3.mono hbal.size)
        clear hb3 hal1 hal hbal CK1 c0 d0 s0 t0 c1 d1 s1 t1 c2 d2 s2 t2 c3 d3 s3 t3
        cases z
        · have HF := Lib.hid (HN.out (by trivial))
          go_wp2_with fail
          go_ret
          exact ⟨ret_bool (by rw [eq_comm, decide_eq_false_iff_not]; exact HF.out), hb4⟩
        · go_wp2_with fail
          go_roundw
          case rel => exact ⟨k + 1, by omega, by go_num, fun j h1 h2 hjk => by
            by_cases e : j = k
            · subst e; exact (HS.out.trans (HD.out (by trivial))).trans HS'.out.symm
            · exact HAL.out j h1 h2 (by omega), hb4⟩
          case measure => simp only [intOf]; omega
      · obtain rfl : k = ks.length := by omega
        have HAL := Lib.hid hall
        clear hall
        go_wp2_with fail
        go_ret
        refine ⟨ret_bool ?_, hb⟩
        rw [eq_comm, decide_eq_true_eq]
        exact List.ext_getElem HL.out (fun j h1 h2 => HAL.out j h1 h2 h1)
  · have p4 : ((ks.length : Int) == (ls.length : Int)) = false := beq_no (by omega)
    have p5 : ((ks.length : Int) != (ls.length : Int)) = true := by rw [bne, p4]; rfl
    have HC := Lib.hid h4; clear h4
    go_enter Try.func77, Try.ntmps77
    go_wp2_with fail
    go_ret
    exact ⟨ret_bool (by rw [eq_comm, decide_eq_false_iff_not]; intro h; exact HC.out (by rw [h])), Below.refl _ _⟩
end Go.Proofs.Ytjiimcbfniknoaa
