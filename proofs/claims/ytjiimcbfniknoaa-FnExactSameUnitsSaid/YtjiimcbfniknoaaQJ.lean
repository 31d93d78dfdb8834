/-
  Blocks compared by the model.
-/
import Derived.Test.YtjiimcbfniknoaaQI
namespace Go.Proofs.Ytjiimcbfniknoaa
open Go.RowKit
set_option maxRecDepth 100000

set_option maxHeartbeats 2000000 in
theorem l5Quiet (ks ls : List Int) (A B : Option Addr) (c d : Nat) (w : World) (hA : NumS w (Lt w.heap.size) ks A) (hB : NumS w (Lt w.heap.size) ls B) (hn : ks.length ≤ 2000000) (_hn' : ls.length ≤ 2000000) :
    Calls Try.prog 73 #[.slice A ks.length c, .slice B ls.length d] w fun e w' => e = .returned (.bool (decide (ks = ls))) ∧ ∃ q, w' = w.drewN q := by
  by_cases h4 : ks.length = ls.length
  · have p4 : ((ks.length : Int) != (ls.length : Int)) = false := by rw [h4]; simp
    have HL := Lib.hid h4
    have HA := Lib.hid hA
    have HB := Lib.hid hB
    clear h4 hA hB
    go_enter Try.func73, Try.ntmps73
    go_wp2_with fail
    go_loopw [5] (fun i wr => ∃ (k : Nat), k ≤ ks.length ∧ i = .int .i64 k ∧ (∀ j, (h : j < ks.length) → (h' : j < ls.length) → j < k → ks[j] = ls[j]) ∧ ∃ q, wr = w.drewN q) (fun i _ => ks.length - (intOf i).toNat)
    case atStart => exact ⟨0, Nat.zero_le _, rfl, fun j _ _ hj => absurd hj (by omega), 0, rfl⟩
    case round =>
      obtain ⟨k, hk, rfl, hall, q, rfl⟩ := hrel
      by_cases hltk : k < ks.length
      · have hlt' : k < ls.length := by have := HL.out; omega
        have hltk' : (k : Int) < ls.length := by omega
        obtain ⟨b, o, rfl, _, c0⟩ := HA.out.at_ hltk
        obtain ⟨b', o', rfl, _, d0⟩ := HB.out.at_ hlt'
        have HAL := Lib.hid hall; clear hall
        generalize hs0 : ks[k] = x at *
        generalize hs1 : ls[k] = x' at *
        have HS := Lib.hid hs0; clear hs0
        have HS' := Lib.hid hs1; clear hs1
        by_cases hxx : x = x'
        · have p1 : (x == x') = true := by rw [hxx]; simp
          have p2 : (x != x') = false := by rw [bne, p1]; rfl
          have HX := Lib.hid hxx
          clear hxx
          go_wp2_with fail
          go_quiet (fail)
          all_goals
            go_wp2_with fail
            go_roundw
            case rel => exact ⟨k + 1, by omega, by go_num, fun j h1 h2 hjk => by
              by_cases e : j = k
              · subst e; exact (HS.out.trans HX.out).trans HS'.out.symm
              · exact HAL.out j h1 h2 (by omega), q + nq, by first | rfl | rw [World.drewN_drewN] | simp⟩
            case measure => simp only [intOf]; omega
        · have p1 : (x == x') = false := by simpa using hxx
          have p2 : (x != x') = true := by rw [bne, p1]; rfl
          have HX := Lib.hid (show ks ≠ ls from fun e => hxx (by have h1 := HS.out; have h2 := HS'.out; simp only [e] at h1; rw [← h1, ← h2]))
          clear hxx
          go_wp2_with fail
          go_quiet (fail)
          all_goals
            go_wp2_with fail
            go_ret
            exact ⟨ret_bool (by rw [eq_comm, decide_eq_false_iff_not]; exact HX.out), q + nq, by first | rfl | rw [World.drewN_drewN] | simp⟩
      · obtain rfl : k = ks.length := by omega
        have HAL := Lib.hid hall
        clear hall
        go_wp2_with fail
        go_ret
        exact ⟨ret_bool (by rw [eq_comm, decide_eq_true_eq]; exact List.ext_getElem HL.out (fun j h1 h2 => HAL.out j h1 h2 h1)), _, rfl⟩
  · have p4 : ((ks.length : Int) == (ls.length : Int)) = false := beq_no (by omega)
    have p5 : ((ks.length : Int) != (ls.length : Int)) = true := by rw [bne, p4]; rfl
    have HC := Lib.hid h4; clear h4
    go_enter Try.func73, Try.ntmps73
    go_wp2_with fail
    go_ret
    exact ⟨ret_bool (by rw [eq_comm, decide_eq_false_iff_not]; intro h; exact HC.out (by rw [h])), 0, rfl⟩
open Classical in
set_option maxHeartbeats 8000000 in
theorem l7SameBlock_any (x y : Bk) (v v' : Value) (w : World) (hV : BkV w (Lt w.heap.size) x v) (hV' : BkV w (Lt w.heap.size) y v') (hk : bulkBk x ≤ 2000000) (hl : bulkBk y ≤ 2000000) :
    Calls Try.prog 53 #[v, v'] w (BoolB (decide (x = y)) w) := by
  obtain ⟨Aphis, cphis, Ains, cins, Anext, cnext, rfl, rAphis, rAins, rAnext⟩ := hV
  obtain ⟨Bphis, dphis, Bins, dins, Bnext, dnext, rfl, rBphis, rBins, rBnext⟩ := hV'
  unfold bulkBk at hk hl
  have n1 := length_le_bulkR bulkPh x.phis
  have n2 := length_le_bulkR bulkIk x.ins
  have n3 := length_le_bulkR bulkPh y.phis
  have n4 := length_le_bulkR bulkIk y.ins
  have hb := two_boxes w (.cells #[.slice Aphis x.phis.length cphis, .slice Ains x.ins.length cins, .int .i64 x.jump, .int .i64 x.on, .slice Anext x.next.length cnext] 65) (.cells #[.slice Bphis y.phis.length dphis, .slice Bins y.ins.length dins, .int .i64 y.jump, .int .i64 y.on, .slice Bnext y.next.length dnext] 65)
  have HX := Lib.hid (bk_ext x y)
  have EN := Lib.hid (fun (W : World) (h : Below w.heap.size w W) => l5Nums_any x.next y.next Anext Bnext cnext dnext W (rAnext.on h h.size) (rBnext.on h h.size) (by omega) (by omega))
  have DN := Lib.hid (show decide (x.next = y.next) = true ↔ x.next = y.next from decide_eq_true_iff)
  have PA := Lib.hid rAphis
  have PB := Lib.hid rBphis
  have IA := Lib.hid rAins
  have IB := Lib.hid rBins
  have m1 : x.phis.length ≤ 2000000 := by omega
  have m2 : x.ins.length ≤ 2000000 := by omega
  have m3 : y.phis.length ≤ 2000000 := by omega
  have m4 : y.ins.length ≤ 2000000 := by omega
  have K1 := Lib.hid (show bulkR bulkPh x.phis ≤ 2000000 by omega)
  have K2 := Lib.hid (show bulkR bulkIk x.ins ≤ 2000000 by omega)
  have K3 := Lib.hid (show bulkR bulkPh y.phis ≤ 2000000 by omega)
  have K4 := Lib.hid (show bulkR bulkIk y.ins ≤ 2000000 by omega)
  clear hk hl rAphis rAins rAnext rBphis rBins rBnext n1 n2 n3 n4
  generalize decide (x.next = y.next) = zn at *
  generalize hz : decide (x = y) = z at *
  have HZ := Lib.hid (show z = true ↔ x = y by rw [← hz]; exact decide_eq_true_iff)
  clear hz
  obtain ⟨S, U, _⟩ := two_new w [.slice Aphis x.phis.length cphis, .slice Ains x.ins.length cins, .int .i64 x.jump, .int .i64 x.on, .slice Anext x.next.length cnext] [.slice Bphis y.phis.length dphis, .slice Bins y.ins.length dins, .int .i64 y.jump, .int .i64 y.on, .slice Bnext y.next.length dnext] 65 65
  have hl : w.heap.size + 1 < ((w.alloc (.cells #[.slice Aphis x.phis.length cphis, .slice Ains x.ins.length cins, .int .i64 x.jump, .int .i64 x.on, .slice Anext x.next.length cnext] 65)).alloc (.cells #[.slice Bphis y.phis.length dphis, .slice Bins y.ins.length dins, .int .i64 y.jump, .int .i64 y.on, .slice Bnext y.next.length dnext] 65)).heap.size := by rw [World.size_alloc, World.size_alloc]; omega
  have HS := Lib.hid S
  have HU := Lib.hid U
  clear S U
  have NO := Lib.hid (show ¬ x = y → z = false from fun h => by
    cases z with
    | false => rfl
    | true => exact absurd (HZ.out.1 rfl) h)
  by_cases hphis : x.phis.length = y.phis.length
  case neg =>
    have pphis : (((x.phis.length : Nat) : Int) == ((y.phis.length : Nat) : Int)) = false := beq_no (by omega)
    have qphis : (((x.phis.length : Nat) : Int) != ((y.phis.length : Nat) : Int)) = true := by rw [bne, pphis]; rfl
    have HC := Lib.hid (NO.out fun e => hphis (by rw [e]))
    have HB := Lib.hid hb
    clear hphis
    go_enter Try.func53, Try.ntmps53
    go_wp2_with fail
    go_ret
    exact ⟨ret_bool HC.out.symm, HB.out⟩
  have pphis : (((x.phis.length : Nat) : Int) == ((y.phis.length : Nat) : Int)) = true := beq_yes (by omega)
  have qphis : (((x.phis.length : Nat) : Int) != ((y.phis.length : Nat) : Int)) = false := by rw [bne, pphis]; rfl
  have Hphis := Lib.hid hphis
  clear hphis
  by_cases hins : x.ins.length = y.ins.length
  case neg =>
    have pins : (((x.ins.length : Nat) : Int) == ((y.ins.length : Nat) : Int)) = false := beq_no (by omega)
    have qins : (((x.ins.length : Nat) : Int) != ((y.ins.length : Nat) : Int)) = true := by rw [bne, pins]; rfl
    have HC := Lib.hid (NO.out fun e => hins (by rw [e]))
    have HB := Lib.hid hb
    clear hins
    go_enter Try.func53, Try.ntmps53
    go_wp2_with fail
    go_ret
    exact ⟨ret_bool HC.out.symm, HB.out⟩
  have pins : (((x.ins.length : Nat) : Int) == ((y.ins.length : Nat) : Int)) = true := beq_yes (by omega)
  have qins : (((x.ins.length : Nat) : Int) != ((y.ins.length : Nat) : Int)) = false := by rw [bne, pins]; rfl
  have Hins := Lib.hid hins
  clear hins
  by_cases hjump : x.jump = y.jump
  case neg =>
    have pjump : (x.jump == y.jump) = false := beq_no (by omega)
    have qjump : (x.jump != y.jump) = true := by rw [bne, pjump]; rfl
    have HC := Lib.hid (NO.out fun e => hjump (by rw [e]))
    have HB := Lib.hid hb
    clear hjump
    go_enter Try.func53, Try.ntmps53
    go_wp2_with fail
    go_ret
    exact ⟨ret_bool HC.out.symm, HB.out⟩
  have pjump : (x.jump == y.jump) = true := beq_yes (by omega)
  have qjump : (x.jump != y.jump) = false := by rw [bne, pjump]; rfl
  have Hjump := Lib.hid hjump
  clear hjump
  by_cases hon : x.on = y.on
  case neg =>
    have pon : (x.on == y.on) = false := beq_no (by omega)
    have qon : (x.on != y.on) = true := by rw [bne, pon]; rfl
    have HC := Lib.hid (NO.out fun e => hon (by rw [e]))
    have HB := Lib.hid hb
    clear hon
    go_enter Try.func53, Try.ntmps53
    go_wp2_with fail
    go_ret
    exact ⟨ret_bool HC.out.symm, HB.out⟩
  have pon : (x.on == y.on) = true := beq_yes (by omega)
  have qon : (x.on != y.on) = false := by rw [bne, pon]; rfl
  have Hon := Lib.hid hon
  clear hon
  go_enter Try.func53, Try.ntmps53
  go_wp2_with fail
  (with_reducible refine Calls.mono (EN.out _ hb) ?_)
  rintro ee w1 ⟨rfl, hu⟩
  have hb1 := hb.trans (hu.mono hb.size)
  have HS1 := Lib.hid (HS.out.below hu (by omega))
  have HU1 := Lib.hid (HU.out.below hu hl)
  have hl1 := Nat.lt_of_lt_of_le hl hu.size
  clear hu hl HS HU hb pphis qphis pins qins pjump qjump pon qon
  cases zn with
  | false =>
    have HC := Lib.hid (NO.out fun e => by have := DN.out.2 (by rw [e]); cases this)
    go_wp2_with fail
    go_ret
    exact ⟨ret_bool HC.out.symm, hb1⟩
  | true =>
  have GN := Lib.hid (DN.out.1 rfl)
  clear DN EN
  go_wp2_with fail
  go_loopw [5] (fun i wr => ∃ (k : Nat), k ≤ x.phis.length ∧ i = .int .i64 k ∧ (∀ j, (h : j < x.phis.length) → (h' : j < y.phis.length) → j < k → x.phis[j] = y.phis[j]) ∧ Below w1.heap.size w1 wr) (fun i _ => x.phis.length - (intOf i).toNat)
  case atStart => exact ⟨0, Nat.zero_le _, rfl, fun j _ _ hj => absurd hj (by omega), Below.refl _ _⟩
  case round =>
    obtain ⟨k, hk, rfl, hall, hc⟩ := hrel
    have hd := hb1.trans (hc.mono hb1.size)
    have hds := hd.size
    have a0 := (HS1.out.below hc (by omega)) 0 _ rfl
    have b0 := (HU1.out.below hc hl1) 0 _ rfl
    by_cases hlt : k < x.phis.length
    · have hlt' : k < y.phis.length := by have := Hphis.out; omega
      have hlti : (k : Int) < x.phis.length := by omega
      have hlti' : (k : Int) < y.phis.length := by omega
      obtain ⟨b, o, rfl, hSb, ⟨c0, A1, a1, c1, r1⟩⟩ := (PA.out.on hd hds).at_ hlt
      obtain ⟨b', o', rfl, hSb', ⟨d0, B1, e1, d1, s1⟩⟩ := (PB.out.on hd hds).at_ hlt'
      have hm1 : x.phis[k].args.length ≤ 2000000 := Nat.le_trans (Nat.le_of_lt (bulkR_mem (f := bulkPh) (List.getElem_mem hlt))) K1.out
      have hm2 : y.phis[k].args.length ≤ 2000000 := Nat.le_trans (Nat.le_of_lt (bulkR_mem (f := bulkPh) (List.getElem_mem hlt'))) K3.out
      have C5 := fun n => Lib.hid (l5Quiet _ _ A1 B1 a1 e1 (wr.drewN n) r1 s1 hm1 hm2)
      have HAL := Lib.hid hall
      have HNE := Lib.hid (show ¬ x.phis[k] = y.phis[k] → z = false from fun h => NO.out fun e => h (by subst e; rfl))
      have HEQ := Lib.hid (show x.phis[k] = y.phis[k] ↔ _ from ph_ext _ _)
      have HSTEP := Lib.hid (show x.phis[k] = y.phis[k] → ∀ j, (h : j < x.phis.length) → (h' : j < y.phis.length) → j < k + 1 → x.phis[j] = y.phis[j] from fun he j h1 h2 hjk => by
        by_cases e : j = k
        · subst e; exact he
        · exact hall j h1 h2 (by omega))
      clear hall hm1 hm2 r1 s1
      generalize x.phis[k] = f at *
      generalize y.phis[k] = g at *
      have DZ := Lib.hid (show decide (f.args = g.args) = true ↔ f.args = g.args from decide_eq_true_iff)
      generalize decide (f.args = g.args) = zz at *
      by_cases ht : f.to = g.to
      case neg =>
        have p1 : (f.to == g.to) = false := beq_no ht
        have p2 : (f.to != g.to) = true := by rw [bne, p1]; rfl
        have HC := Lib.hid (HNE.out fun e => ht (by rw [e]))
        clear ht C5
        go_wp2_with fail
        go_quiet (fail)
        have hd2 := below_drewN hd nq
        go_wp2_with fail
        go_ret
        exact ⟨ret_bool HC.out.symm, hd2⟩
      have p1 : (f.to == g.to) = true := beq_yes ht
      have p2 : (f.to != g.to) = false := by rw [bne, p1]; rfl
      have HT := Lib.hid ht
      clear ht
      cases zz with
      | false =>
        have HC := Lib.hid (HNE.out fun e => by have := DZ.out.2 (by rw [e]); cases this)
        go_wp2_with fail
        go_quiet (first | (go_at_call 73; exact Calls.quiet_of (C5 _).out))
        have hd2 := below_drewN hd nq
        go_wp2_with fail
        go_ret
        exact ⟨ret_bool HC.out.symm, hd2⟩
      | true =>
      have HN := Lib.hid (HSTEP.out (HEQ.out.2 ⟨HT.out, DZ.out.1 rfl⟩))
      go_wp2_with fail
      go_quiet (first | (go_at_call 73; exact Calls.quiet_of (C5 _).out))
      have hc2 := below_drewN hc nq
      go_wp2_with fail
      go_roundw
      case rel => exact ⟨k + 1, by omega, by go_num, HN.out, hc2⟩
      case measure => simp only [intOf]; omega
    · have hge : x.phis.length ≤ k := by omega
      have GP := Lib.hid (show x.phis = y.phis from List.ext_getElem Hphis.out (fun j h1 h2 => hall j h1 h2 (by omega)))
      clear hall PA PB K1 K3
      have HS2 := Lib.hid (HS1.out.below hc (by omega))
      have HU2 := Lib.hid (HU1.out.below hc hl1)
      have hl2 := Nat.lt_of_lt_of_le hl1 hc.size
      clear HS1 HU1 b0 hds
      go_wp2_with fail
      clear a0
      go_loopw [6] (fun i wr2 => ∃ (m : Nat), m ≤ x.ins.length ∧ i = .int .i64 m ∧ (∀ j, (h : j < x.ins.length) → (h' : j < y.ins.length) → j < m → x.ins[j] = y.ins[j]) ∧ Below wr.heap.size wr wr2) (fun i _ => x.ins.length - (intOf i).toNat)
      case atStart => exact ⟨0, Nat.zero_le _, rfl, fun j _ _ hj => absurd hj (by omega), Below.refl _ _⟩
      case round =>
        obtain ⟨m, hm, rfl, hall, hc3⟩ := hrel
        have hd3 := hd.trans (hc3.mono hd.size)
        have hds3 := hd3.size
        have a1 := (HS2.out.below hc3 (by omega)) 1 _ rfl
        have b1 := (HU2.out.below hc3 hl2) 1 _ rfl
        by_cases hlt2 : m < x.ins.length
        · have hlt2' : m < y.ins.length := by have := Hins.out; omega
          have hlti : (m : Int) < x.ins.length := by omega
          have hlti' : (m : Int) < y.ins.length := by omega
          obtain ⟨b, o, rfl, hSb, ⟨c0, c1, ⟨A2, a2, c2, r2⟩, c3⟩⟩ := (IA.out.on hd3 hds3).at_ hlt2
          obtain ⟨b', o', rfl, hSb', ⟨d0, d1, ⟨B2, e2, d2, s2⟩, d3⟩⟩ := (IB.out.on hd3 hds3).at_ hlt2'
          have hm1 : x.ins[m].args.length ≤ 2000000 := Nat.le_trans (Nat.le_of_lt (bulkR_mem (f := bulkIk) (List.getElem_mem hlt2))) K2.out
          have hm2 : y.ins[m].args.length ≤ 2000000 := Nat.le_trans (Nat.le_of_lt (bulkR_mem (f := bulkIk) (List.getElem_mem hlt2'))) K4.out
          have C5 := fun (W : World) (h : Below wr.heap.size wr W) => Lib.hid (l5Nums_any _ _ A2 B2 a2 e2 W (r2.on h h.size) (s2.on h h.size) hm1 hm2)
          have HNE := Lib.hid (show ¬ x.ins[m] = y.ins[m] → z = false from fun h => NO.out fun e => h (by subst e; rfl))
          have HEQ := Lib.hid (show x.ins[m] = y.ins[m] ↔ _ from ik_ext _ _)
          have HSTEP := Lib.hid (show x.ins[m] = y.ins[m] → ∀ j, (h : j < x.ins.length) → (h' : j < y.ins.length) → j < m + 1 → x.ins[j] = y.ins[j] from fun he j h1 h2 hjk => by
            by_cases e : j = m
            · subst e; exact he
            · exact hall j h1 h2 (by omega))
          clear hall hm1 hm2 r2 s2
          generalize x.ins[m] = f at *
          generalize y.ins[m] = g at *
          have DZ := Lib.hid (show decide (f.args = g.args) = true ↔ f.args = g.args from decide_eq_true_iff)
          generalize decide (f.args = g.args) = zz at *
          have hal1 := (Below.refl wr.heap.size wr).alloc (Nat.le_refl _) (.cells #[.int .i64 f.op, .int .i64 f.to, .slice A2 f.args.length a2, .int .i64 f.n] 27)
          replace b1 := (hal1.cell (p := ⟨w.heap.size + 1, 1, none⟩) (by have := hc3.size; show w.heap.size + 1 < wr.heap.size; omega)).trans b1
          replace d0 := (hal1.cell (p := ⟨b', o' + m * 4, none⟩) hSb').trans d0
          replace d1 := (hal1.cell (p := ⟨b', o' + m * 4 + 1, none⟩) hSb').trans d1
          replace d2 := (hal1.cell (p := ⟨b', o' + m * 4 + 2, none⟩) hSb').trans d2
          replace d3 := (hal1.cell (p := ⟨b', o' + m * 4 + 3, none⟩) hSb').trans d3
          obtain ⟨S, U, hal⟩ := two_new wr [.int .i64 f.op, .int .i64 f.to, .slice A2 f.args.length a2, .int .i64 f.n] [.int .i64 g.op, .int .i64 g.to, .slice B2 g.args.length e2, .int .i64 g.n] 27 27
          have s0 := S 0 _ rfl
          have s1 := S 1 _ rfl
          have s2 := S 2 _ rfl
          have s3 := S 3 _ rfl
          have t0 := U 0 _ rfl
          have t1 := U 1 _ rfl
          have t2 := U 2 _ rfl
          have t3 := U 3 _ rfl
          have C6 := C5 _ hal
          have hc4 := hc3.trans (hal.mono hc3.size)
          have hd4 := hd3.trans (hal.mono hd3.size)
          clear C5 S U hal hal1
          by_cases top : f.op = g.op
          case neg =>
            have p1 : (f.op == g.op) = false := beq_no top
            have p2 : (f.op != g.op) = true := by rw [bne, p1]; rfl
            have HC := Lib.hid (HNE.out fun e => top (by rw [e]))
            clear top C6
            go_wp2_with fail
            go_ret
            exact ⟨ret_bool HC.out.symm, hd4⟩
          have pop : (f.op == g.op) = true := beq_yes top
          have qop : (f.op != g.op) = false := by rw [bne, pop]; rfl
          have Hop := Lib.hid top
          clear top
          by_cases tto : f.to = g.to
          case neg =>
            have p1 : (f.to == g.to) = false := beq_no tto
            have p2 : (f.to != g.to) = true := by rw [bne, p1]; rfl
            have HC := Lib.hid (HNE.out fun e => tto (by rw [e]))
            clear tto C6
            go_wp2_with fail
            go_ret
            exact ⟨ret_bool HC.out.symm, hd4⟩
          have pto : (f.to == g.to) = true := beq_yes tto
          have qto : (f.to != g.to) = false := by rw [bne, pto]; rfl
          have Hto := Lib.hid tto
          clear tto
          by_cases tn : f.n = g.n
          case neg =>
            have p1 : (f.n == g.n) = false := beq_no tn
            have p2 : (f.n != g.n) = true := by rw [bne, p1]; rfl
            have HC := Lib.hid (HNE.out fun e => tn (by rw [e]))
            clear tn C6
            go_wp2_with fail
            go_ret
            exact ⟨ret_bool HC.out.symm, hd4⟩
          have pn : (f.n == g.n) = true := beq_yes tn
          have qn : (f.n != g.n) = false := by rw [bne, pn]; rfl
          have Hn := Lib.hid tn
          clear tn
          cases zz with
          | false =>
            have HC := Lib.hid (HNE.out fun e => by have := DZ.out.2 (by rw [e]); cases this)
            go_wp2_with fail
            (with_reducible refine Calls.mono C6.out ?_)
            rintro ee w5 ⟨rfl, hu⟩
            have hd5 := hd4.trans (hu.mono hd4.size)
            go_wp2_with fail
            go_ret
            exact ⟨ret_bool HC.out.symm, hd5⟩
          | true =>
          have HN := Lib.hid (HSTEP.out (HEQ.out.2 ⟨Hop.out, Hto.out, Hn.out, DZ.out.1 rfl⟩))
          go_wp2_with fail
          (with_reducible refine Calls.mono C6.out ?_)
          rintro ee w5 ⟨rfl, hu⟩
          have hc5 := hc4.trans (hu.mono hc4.size)
          go_wp2_with fail
          go_roundw
          case rel => exact ⟨m + 1, by omega, by go_num, HN.out, hc5⟩
          case measure => simp only [intOf]; omega
        · have hge2 : x.ins.length ≤ m := by omega
          have GI := Lib.hid (show x.ins = y.ins from List.ext_getElem Hins.out (fun j h1 h2 => hall j h1 h2 (by omega)))
          have HC := Lib.hid (HZ.out.2 (HX.out.2 ⟨Hjump.out, Hon.out, GN.out, GP.out, GI.out⟩))
          clear hall
          go_wp2_with fail
          go_ret
          exact ⟨ret_bool HC.out.symm, hd3⟩
end Go.Proofs.Ytjiimcbfniknoaa
