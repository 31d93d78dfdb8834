/-
  Codes and rows of them compared by the program.
-/
import Derived.Test.YtjiimcbfniknoaaQG
namespace Go.Proofs.Ytjiimcbfniknoaa
open Go.RowKit
set_option maxRecDepth 100000

theorem cd_ext (x y : Cd) : x = y ↔ x.params = y.params ∧ x.regs = y.regs ∧ x.blocks = y.blocks := by
  constructor
  · rintro rfl; exact ⟨rfl, rfl, rfl⟩
  · rintro ⟨hparams, hregs, hblocks⟩; cases x; cases y; simp_all
open Classical in
set_option maxHeartbeats 4000000 in
theorem sameCodes_any (x y : Cd) (v v' : Value) (w : World) (hV : CdV w (Lt w.heap.size) x v) (hV' : CdV w (Lt w.heap.size) y v') (hk : bulkCd x ≤ 2000000) (hl : bulkCd y ≤ 2000000) :
    Calls Try.prog 43 #[v, v'] w (BoolB (decide (x = y)) w) := by
  obtain ⟨Ablocks, cblocks, rfl, rAblocks⟩ := hV
  obtain ⟨Bblocks, dblocks, rfl, rBblocks⟩ := hV'
  unfold bulkCd at hk hl
  have hb := two_boxes w (.cells #[.int .i64 x.params, .int .i64 x.regs, .slice Ablocks x.blocks.length cblocks] 41) (.cells #[.int .i64 y.params, .int .i64 y.regs, .slice Bblocks y.blocks.length dblocks] 41)
  have HX := Lib.hid (cd_ext x y)
  have Eblocks := Lib.hid (fun (W : World) (h : Below w.heap.size w W) => equalBk_any x.blocks y.blocks Ablocks Bblocks cblocks dblocks W (rAblocks.on h h.size) (rBblocks.on h h.size) (by omega) (by omega))
  have Dblocks := Lib.hid (show decide (x.blocks = y.blocks) = true ↔ x.blocks = y.blocks from decide_eq_true_iff)
  clear hk hl rAblocks rBblocks
  generalize decide (x.blocks = y.blocks) = zblocks at *
  generalize hz : decide (x = y) = z at *
  have HZ := Lib.hid (show z = true ↔ x = y by rw [← hz]; exact decide_eq_true_iff)
  clear hz
  by_cases hparams : x.params = y.params
  case neg =>
    have pparams : (x.params == y.params) = false := beq_no hparams
    have qparams : (x.params != y.params) = true := by rw [bne, pparams]; rfl
    have HC := Lib.hid hparams
    have HB := Lib.hid hb
    clear hparams
    go_enter Try.func43, Try.ntmps43
    go_wp2_with fail
    go_ret
    refine ⟨ret_bool ?_, HB.out⟩
    cases z with
    | false => rfl
    | true => exact absurd (HX.out.1 (HZ.out.1 rfl)) (fun h => by obtain ⟨gparams, gregs, gblocks⟩ := h; exact HC.out gparams)
  have pparams : (x.params == y.params) = true := beq_yes hparams
  have qparams : (x.params != y.params) = false := by rw [bne, pparams]; rfl
  have Hparams := Lib.hid hparams
  clear hparams
  by_cases hregs : x.regs = y.regs
  case neg =>
    have pregs : (x.regs == y.regs) = false := beq_no hregs
    have qregs : (x.regs != y.regs) = true := by rw [bne, pregs]; rfl
    have HC := Lib.hid hregs
    have HB := Lib.hid hb
    clear hregs
    go_enter Try.func43, Try.ntmps43
    go_wp2_with fail
    go_ret
    refine ⟨ret_bool ?_, HB.out⟩
    cases z with
    | false => rfl
    | true => exact absurd (HX.out.1 (HZ.out.1 rfl)) (fun h => by obtain ⟨gparams, gregs, gblocks⟩ := h; exact HC.out gregs)
  have pregs : (x.regs == y.regs) = true := beq_yes hregs
  have qregs : (x.regs != y.regs) = false := by rw [bne, pregs]; rfl
  have Hregs := Lib.hid hregs
  clear hregs
  go_enter Try.func43, Try.ntmps43
  go_wp2_with fail
  (with_reducible refine Calls.mono (Eblocks.out _ hb) ?_)
  rintro ee u0 ⟨rfl, hu0⟩
  have hb0 := hb.trans (hu0.mono hb.size)
  clear hu0
  cases zblocks with
  | false =>
    have HB := Lib.hid hb0
    go_wp2_with fail
    go_ret
    refine ⟨ret_bool ?_, HB.out⟩
    cases z with
    | false => rfl
    | true => exact absurd (HX.out.1 (HZ.out.1 rfl)) (fun h => by obtain ⟨gparams, gregs, gblocks⟩ := h; exact by have := Dblocks.out.2 gblocks; cases this)
  | true =>
  have Gblocks := Lib.hid (Dblocks.out.1 rfl)
  go_wp2_with fail
  go_ret
  refine ⟨ret_bool ?_, hb0⟩
  exact (HZ.out.2 (HX.out.2 ⟨Hparams.out, Hregs.out, Gblocks.out⟩)).symm
open Classical in
set_option maxHeartbeats 4000000 in
theorem equalCd_any (ks ls : List Cd) (A B : Option Addr) (c d : Nat) (w : World) (hA : CdS w (Lt w.heap.size) ks A) (hB : CdS w (Lt w.heap.size) ls B) (hk : bulkR bulkCd ks ≤ 2000000) (hl : bulkR bulkCd ls ≤ 2000000) :
    Calls Try.prog 42 #[.slice A ks.length c, .slice B ls.length d, .func (.func 43) #[] #[]] w (BoolB (decide (ks = ls)) w) := by
  have hn : ks.length ≤ 2000000 := Nat.le_trans (length_le_bulkR bulkCd ks) hk
  have hn' : ls.length ≤ 2000000 := Nat.le_trans (length_le_bulkR bulkCd ls) hl
  by_cases h4 : ks.length = ls.length
  · have p4 : ((ks.length : Int) != (ls.length : Int)) = false := by rw [h4]; simp
    have HL := Lib.hid h4
    have HA := Lib.hid hA
    have HB := Lib.hid hB
    have HKS := Lib.hid hk
    have HLS := Lib.hid hl
    clear h4 hA hB hk hl
    go_enter Try.func42, Try.ntmps42
    go_wp2_with fail
    go_loopw [17] (fun i wr => ∃ (k : Nat), k ≤ ks.length ∧ i = .int .i64 k ∧ (∀ j, (h : j < ks.length) → (h' : j < ls.length) → j < k → ks[j] = ls[j]) ∧ Below w.heap.size w wr) (fun i _ => ks.length - (intOf i).toNat)
    case atStart => exact ⟨0, Nat.zero_le _, rfl, fun j _ _ hj => absurd hj (by omega), Below.refl _ _⟩
    case round =>
      obtain ⟨k, hk, rfl, hall, hb⟩ := hrel
      have hbs := hb.size
      by_cases hltk : k < ks.length
      · have hlt' : k < ls.length := by have := HL.out; omega
        have hltk' : (k : Int) < ls.length := by omega
        obtain ⟨b, o, rfl, hSb, ⟨c0, c1, ⟨Ablocks, ablocks, c2, rblocks⟩⟩⟩ := (HA.out.on hb hbs).at_ hltk
        obtain ⟨b', o', rfl, hSb', ⟨d0, d1, ⟨Bblocks, eblocks, d2, sblocks⟩⟩⟩ := (HB.out.on hb hbs).at_ hlt'
        have hm1 : bulkCd ks[k] ≤ 2000000 := Nat.le_trans (Nat.le_of_lt (bulkR_mem (f := bulkCd) (List.getElem_mem hltk))) HKS.out
        have hm2 : bulkCd ls[k] ≤ 2000000 := Nat.le_trans (Nat.le_of_lt (bulkR_mem (f := bulkCd) (List.getElem_mem hlt'))) HLS.out
        have CK := fun W (h : Below wr.heap.size wr W) => sameCodes_any ks[k] ls[k] _ _ W ⟨Ablocks, ablocks, rfl, rblocks.on h h.size⟩ ⟨Bblocks, eblocks, rfl, sblocks.on h h.size⟩ hm1 hm2
        have HAL := Lib.hid hall; clear hall hm1 hm2 rblocks sblocks
        generalize hs0 : ks[k] = x at *
        generalize hs1 : ls[k] = x' at *
        have HS := Lib.hid hs0; clear hs0
        have HS' := Lib.hid hs1; clear hs1
        have HN : Hid (decide (x = x') = false → ks ≠ ls) := Lib.hid fun hd e => by
          have h1 := HS.out
          have h2 := HS'.out
          simp only [e] at h1
          exact of_decide_eq_false hd (by rw [← h1, ← h2])
        have HD : Hid (decide (x = x') = true → x = x') := Lib.hid of_decide_eq_true
        generalize decide (x = x') = z at *
        have hal1 := (Below.refl wr.heap.size wr).alloc (Nat.le_refl _) (.cells #[.int .i64 x.params, .int .i64 x.regs, .slice Ablocks x.blocks.length ablocks] 41)
        replace d0 := (hal1.cell (p := ⟨b', o' + k * 3, none⟩) hSb').trans d0
        replace d1 := (hal1.cell (p := ⟨b', o' + k * 3 + 1, none⟩) hSb').trans d1
        replace d2 := (hal1.cell (p := ⟨b', o' + k * 3 + 2, none⟩) hSb').trans d2
        obtain ⟨S, U, hal⟩ := two_new wr [.int .i64 x.params, .int .i64 x.regs, .slice Ablocks x.blocks.length ablocks] [.int .i64 x'.params, .int .i64 x'.regs, .slice Bblocks x'.blocks.length eblocks] 41 41
        have s0 := S 0 _ rfl
        have t0 := U 0 _ rfl
        have s1 := S 1 _ rfl
        have t1 := U 1 _ rfl
        have s2 := S 2 _ rfl
        have t2 := U 2 _ rfl
        have CK1 := Lib.hid (CK _ hal)
        have hbal := hb.trans (hal.mono hbs)
        clear CK S U
        go_wp2_with fail
        (with_reducible refine Calls.mono CK1.out ?_)
        rintro ee w3 ⟨rfl, hb3⟩
        have hb4 := hbal.trans (hb3.mono hbal.size)
        clear hb3 hal1 hal hbal CK1 c0 d0 s0 t0 c1 d1 s1 t1 c2 d2 s2 t2
        cases z
        · have HF := Lib.hid (HN.out (by trivial))
          go_wp2_with fail
          go_ret
          exact ⟨ret_bool (by rw [eq_comm, decide_eq_false_iff_not]; exact HF.out), hb4⟩
        · go_wp2_with fail
          go_roundw
          case rel => exact ⟨k + 1, by omega, by go_num, fun j h1 h2 hjk => by
            by_cases e : j = k
            · subst e; exact (HS.out.trans (HD.out (by trivial))).trans HS'.out.symm
            · exact HAL.out j h1 h2 (by omega), hb4⟩
          case measure => simp only [intOf]; omega
      · obtain rfl : k = ks.length := by omega
        have HAL := Lib.hid hall
        clear hall
        go_wp2_with fail
        go_ret
        refine ⟨ret_bool ?_, hb⟩
        rw [eq_comm, decide_eq_true_eq]
        exact List.ext_getElem HL.out (fun j h1 h2 => HAL.out j h1 h2 h1)
  · have p4 : ((ks.length : Int) == (ls.length : Int)) = false := beq_no (by omega)
    have p5 : ((ks.length : Int) != (ls.length : Int)) = true := by rw [bne, p4]; rfl
    have HC := Lib.hid h4; clear h4
    go_enter Try.func42, Try.ntmps42
    go_wp2_with fail
    go_ret
    exact ⟨ret_bool (by rw [eq_comm, decide_eq_false_iff_not]; intro h; exact HC.out (by rw [h])), Below.refl _ _⟩
end Go.Proofs.Ytjiimcbfniknoaa
