/-
  Codes compared by the model.
-/
import Derived.Test.YtjiimcbfniknoaaQJ
namespace Go.Proofs.Ytjiimcbfniknoaa
open Go.RowKit
set_option maxRecDepth 100000

open Classical in
set_option maxHeartbeats 8000000 in
theorem l7SameCode_any (x y : Cd) (v v' : Value) (w : World) (hV : CdV w (Lt w.heap.size) x v) (hV' : CdV w (Lt w.heap.size) y v') (hk : bulkCd x ≤ 2000000) (hl : bulkCd y ≤ 2000000) :
    Calls Try.prog 40 #[v, v'] w (BoolB (decide (x = y)) w) := by
  obtain ⟨A, c, rfl, rA⟩ := hV
  obtain ⟨B, d, rfl, rB⟩ := hV'
  unfold bulkCd at hk hl
  have n1 := length_le_bulkR bulkBk x.blocks
  have n2 := length_le_bulkR bulkBk y.blocks
  have m1 : x.blocks.length ≤ 2000000 := by omega
  have m2 : y.blocks.length ≤ 2000000 := by omega
  have hb := two_boxes w (.cells #[.int .i64 x.params, .int .i64 x.regs, .slice A x.blocks.length c] 41) (.cells #[.int .i64 y.params, .int .i64 y.regs, .slice B y.blocks.length d] 41)
  have HX := Lib.hid (cd_ext x y)
  have PA := Lib.hid rA
  have PB := Lib.hid rB
  have K1 := Lib.hid hk
  have K2 := Lib.hid hl
  clear hk hl rA rB n1 n2
  generalize hz : decide (x = y) = z at *
  have HZ := Lib.hid (show z = true ↔ x = y by rw [← hz]; exact decide_eq_true_iff)
  clear hz
  obtain ⟨S, U, _⟩ := two_new w [.int .i64 x.params, .int .i64 x.regs, .slice A x.blocks.length c] [.int .i64 y.params, .int .i64 y.regs, .slice B y.blocks.length d] 41 41
  have hl : w.heap.size + 1 < ((w.alloc (.cells #[.int .i64 x.params, .int .i64 x.regs, .slice A x.blocks.length c] 41)).alloc (.cells #[.int .i64 y.params, .int .i64 y.regs, .slice B y.blocks.length d] 41)).heap.size := by rw [World.size_alloc, World.size_alloc]; omega
  have HS := Lib.hid S
  have HU := Lib.hid U
  clear S U
  have NO := Lib.hid (show ¬ x = y → z = false from fun h => by
    cases z with
    | false => rfl
    | true => exact absurd (HZ.out.1 rfl) h)
  by_cases hparams : x.params = y.params
  case neg =>
    have pparams : (x.params == y.params) = false := beq_no (by omega)
    have qparams : (x.params != y.params) = true := by rw [bne, pparams]; rfl
    have HC := Lib.hid (NO.out fun e => hparams (by rw [e]))
    have HB := Lib.hid hb
    clear hparams
    go_enter Try.func40, Try.ntmps40
    go_wp2_with fail
    go_ret
    exact ⟨ret_bool HC.out.symm, HB.out⟩
  have pparams : (x.params == y.params) = true := beq_yes (by omega)
  have qparams : (x.params != y.params) = false := by rw [bne, pparams]; rfl
  have Hparams := Lib.hid hparams
  clear hparams
  by_cases hregs : x.regs = y.regs
  case neg =>
    have pregs : (x.regs == y.regs) = false := beq_no (by omega)
    have qregs : (x.regs != y.regs) = true := by rw [bne, pregs]; rfl
    have HC := Lib.hid (NO.out fun e => hregs (by rw [e]))
    have HB := Lib.hid hb
    clear hregs
    go_enter Try.func40, Try.ntmps40
    go_wp2_with fail
    go_ret
    exact ⟨ret_bool HC.out.symm, HB.out⟩
  have pregs : (x.regs == y.regs) = true := beq_yes (by omega)
  have qregs : (x.regs != y.regs) = false := by rw [bne, pregs]; rfl
  have Hregs := Lib.hid hregs
  clear hregs
  by_cases hblocks : x.blocks.length = y.blocks.length
  case neg =>
    have pblocks : (((x.blocks.length : Nat) : Int) == ((y.blocks.length : Nat) : Int)) = false := beq_no (by omega)
    have qblocks : (((x.blocks.length : Nat) : Int) != ((y.blocks.length : Nat) : Int)) = true := by rw [bne, pblocks]; rfl
    have HC := Lib.hid (NO.out fun e => hblocks (by rw [e]))
    have HB := Lib.hid hb
    clear hblocks
    go_enter Try.func40, Try.ntmps40
    go_wp2_with fail
    go_ret
    exact ⟨ret_bool HC.out.symm, HB.out⟩
  have pblocks : (((x.blocks.length : Nat) : Int) == ((y.blocks.length : Nat) : Int)) = true := beq_yes (by omega)
  have qblocks : (((x.blocks.length : Nat) : Int) != ((y.blocks.length : Nat) : Int)) = false := by rw [bne, pblocks]; rfl
  have Hblocks := Lib.hid hblocks
  clear hblocks
  have LL := Lib.hid (show x.blocks.length = y.blocks.length from Hblocks.out)
  go_enter Try.func40, Try.ntmps40
  go_wp2_with fail
  generalize (w.alloc (.cells #[.int .i64 x.params, .int .i64 x.regs, .slice A x.blocks.length c] 41)).alloc (.cells #[.int .i64 y.params, .int .i64 y.regs, .slice B y.blocks.length d] 41) = w1 at *
  go_loopw [5] (fun i wr => ∃ (k : Nat), k ≤ x.blocks.length ∧ i = .int .i64 k ∧ (∀ j, (h : j < x.blocks.length) → (h' : j < y.blocks.length) → j < k → x.blocks[j] = y.blocks[j]) ∧ Below w1.heap.size w1 wr) (fun i _ => x.blocks.length - (intOf i).toNat)
  case atStart => exact ⟨0, Nat.zero_le _, rfl, fun j _ _ hj => absurd hj (by omega), Below.refl _ _⟩
  case round =>
    obtain ⟨k, hk, rfl, hall, hc⟩ := hrel
    have hd := hb.trans (hc.mono hb.size)
    have hds := hd.size
    have a0 := (HS.out.below hc (by omega)) 2 _ rfl
    have b0 := (HU.out.below hc hl) 2 _ rfl
    by_cases hlt : k < x.blocks.length
    · have hlt' : k < y.blocks.length := by have := LL.out; omega
      have hlti : (k : Int) < x.blocks.length := by omega
      have hlti' : (k : Int) < y.blocks.length := by omega
      obtain ⟨b, o, rfl, hSb, ⟨⟨Aphis, aphis, c0, rphis⟩, ⟨Ains, ains, c1, rins⟩, c2, c3, ⟨Anext, anext, c4, rnext⟩⟩⟩ := (PA.out.on hd hds).at_ hlt
      obtain ⟨b', o', rfl, hSb', ⟨⟨Bphis, ephis, d0, sphis⟩, ⟨Bins, eins, d1, sins⟩, d2, d3, ⟨Bnext, enext, d4, snext⟩⟩⟩ := (PB.out.on hd hds).at_ hlt'
      have hm1 : bulkBk x.blocks[k] ≤ 2000000 := Nat.le_trans (Nat.le_of_lt (bulkR_mem (f := bulkBk) (List.getElem_mem hlt))) K1.out
      have hm2 : bulkBk y.blocks[k] ≤ 2000000 := Nat.le_trans (Nat.le_of_lt (bulkR_mem (f := bulkBk) (List.getElem_mem hlt'))) K2.out
      have hdr := (Below.refl wr.heap.size wr).drew
      have hBr : b < wr.heap.size := hSb
      have hBr' : b' < wr.heap.size := hSb'
      have hx1 : w.heap.size < wr.heap.size := by have := hc.size; omega
      have hx2 : w.heap.size + 1 < wr.heap.size := by have := hc.size; omega
      have CK := Lib.hid (l7SameBlock_any x.blocks[k] y.blocks[k] _ _ wr.drew ⟨Aphis, aphis, Ains, ains, Anext, anext, rfl, rphis.on hdr hdr.size, rins.on hdr hdr.size, rnext.on hdr hdr.size⟩ ⟨Bphis, ephis, Bins, eins, Bnext, enext, rfl, sphis.on hdr hdr.size, sins.on hdr hdr.size, snext.on hdr hdr.size⟩ hm1 hm2)
      have HNE := Lib.hid (show ¬ x.blocks[k] = y.blocks[k] → z = false from fun h => NO.out fun e => h (by subst e; rfl))
      have HSTEP := Lib.hid (show x.blocks[k] = y.blocks[k] → ∀ j, (h : j < x.blocks.length) → (h' : j < y.blocks.length) → j < k + 1 → x.blocks[j] = y.blocks[j] from fun he j h1 h2 hjk => by
        by_cases e : j = k
        · subst e; exact he
        · exact hall j h1 h2 (by omega))
      clear hall hm1 hm2 rphis sphis rins sins rnext snext
      generalize x.blocks[k] = f at *
      generalize y.blocks[k] = g at *
      have DZ := Lib.hid (show decide (f = g) = true ↔ f = g from decide_eq_true_iff)
      generalize decide (f = g) = zz at *
      clear hdr
      cases zz with
      | false =>
        have HC := Lib.hid (HNE.out fun e => by have := DZ.out.2 e; cases this)
        go_wp2_with fail
        go_region_held3 (fun u => u.cell? ⟨w.heap.size, 2, none⟩ = some (.slice (some ⟨b, o, none⟩) x.blocks.length c) ∧ u.cell? ⟨w.heap.size + 1, 2, none⟩ = some (.slice (some ⟨b', o', none⟩) y.blocks.length d) ∧ u.cell? ⟨b, o + k * 5, none⟩ = some (.slice Aphis f.phis.length aphis) ∧ u.cell? ⟨b, o + k * 5 + 1, none⟩ = some (.slice Ains f.ins.length ains) ∧ u.cell? ⟨b, o + k * 5 + 2, none⟩ = some (.int .i64 f.jump) ∧ u.cell? ⟨b, o + k * 5 + 3, none⟩ = some (.int .i64 f.on) ∧ u.cell? ⟨b, o + k * 5 + 4, none⟩ = some (.slice Anext f.next.length anext) ∧ u.cell? ⟨b', o' + k * 5, none⟩ = some (.slice Bphis g.phis.length ephis) ∧ u.cell? ⟨b', o' + k * 5 + 1, none⟩ = some (.slice Bins g.ins.length eins) ∧ u.cell? ⟨b', o' + k * 5 + 2, none⟩ = some (.int .i64 g.jump) ∧ u.cell? ⟨b', o' + k * 5 + 3, none⟩ = some (.int .i64 g.on) ∧ u.cell? ⟨b', o' + k * 5 + 4, none⟩ = some (.slice Bnext g.next.length enext)) (go_keep) (first | (go_at_call 53; (with_reducible refine Calls.mono CK.out ?_); rintro ee w5 ⟨rfl, hu⟩; have a9 := (hu.cell (p := ⟨w.heap.size, 2, none⟩) hx1).trans a0; have b9 := (hu.cell (p := ⟨w.heap.size + 1, 2, none⟩) hx2).trans b0; have y0 := (hu.cell (p := ⟨b, o + k * 5, none⟩) hBr).trans c0; have y1 := (hu.cell (p := ⟨b, o + k * 5 + 1, none⟩) hBr).trans c1; have y2 := (hu.cell (p := ⟨b, o + k * 5 + 2, none⟩) hBr).trans c2; have y3 := (hu.cell (p := ⟨b, o + k * 5 + 3, none⟩) hBr).trans c3; have y4 := (hu.cell (p := ⟨b, o + k * 5 + 4, none⟩) hBr).trans c4; have z0 := (hu.cell (p := ⟨b', o' + k * 5, none⟩) hBr').trans d0; have z1 := (hu.cell (p := ⟨b', o' + k * 5 + 1, none⟩) hBr').trans d1; have z2 := (hu.cell (p := ⟨b', o' + k * 5 + 2, none⟩) hBr').trans d2; have z3 := (hu.cell (p := ⟨b', o' + k * 5 + 3, none⟩) hBr').trans d3; have z4 := (hu.cell (p := ⟨b', o' + k * 5 + 4, none⟩) hBr').trans d4))
        all_goals
          have hd5 := hd.drew.trans (hu.mono hd.size)
          clear hu a9 b9 y0 z0 c0 d0 y1 z1 c1 d1 y2 z2 c2 d2 y3 z3 c3 d3 y4 z4 c4 d4
          go_wp2_with fail
          go_ret
          exact ⟨ret_bool HC.out.symm, hd5⟩
      | true =>
      have HN := Lib.hid (HSTEP.out (DZ.out.1 rfl))
      go_wp2_with fail
      go_region_held3 (fun u => u.cell? ⟨w.heap.size, 2, none⟩ = some (.slice (some ⟨b, o, none⟩) x.blocks.length c) ∧ u.cell? ⟨w.heap.size + 1, 2, none⟩ = some (.slice (some ⟨b', o', none⟩) y.blocks.length d) ∧ u.cell? ⟨b, o + k * 5, none⟩ = some (.slice Aphis f.phis.length aphis) ∧ u.cell? ⟨b, o + k * 5 + 1, none⟩ = some (.slice Ains f.ins.length ains) ∧ u.cell? ⟨b, o + k * 5 + 2, none⟩ = some (.int .i64 f.jump) ∧ u.cell? ⟨b, o + k * 5 + 3, none⟩ = some (.int .i64 f.on) ∧ u.cell? ⟨b, o + k * 5 + 4, none⟩ = some (.slice Anext f.next.length anext) ∧ u.cell? ⟨b', o' + k * 5, none⟩ = some (.slice Bphis g.phis.length ephis) ∧ u.cell? ⟨b', o' + k * 5 + 1, none⟩ = some (.slice Bins g.ins.length eins) ∧ u.cell? ⟨b', o' + k * 5 + 2, none⟩ = some (.int .i64 g.jump) ∧ u.cell? ⟨b', o' + k * 5 + 3, none⟩ = some (.int .i64 g.on) ∧ u.cell? ⟨b', o' + k * 5 + 4, none⟩ = some (.slice Bnext g.next.length enext)) (go_keep) (first | (go_at_call 53; (with_reducible refine Calls.mono CK.out ?_); rintro ee w5 ⟨rfl, hu⟩; have a9 := (hu.cell (p := ⟨w.heap.size, 2, none⟩) hx1).trans a0; have b9 := (hu.cell (p := ⟨w.heap.size + 1, 2, none⟩) hx2).trans b0; have y0 := (hu.cell (p := ⟨b, o + k * 5, none⟩) hBr).trans c0; have y1 := (hu.cell (p := ⟨b, o + k * 5 + 1, none⟩) hBr).trans c1; have y2 := (hu.cell (p := ⟨b, o + k * 5 + 2, none⟩) hBr).trans c2; have y3 := (hu.cell (p := ⟨b, o + k * 5 + 3, none⟩) hBr).trans c3; have y4 := (hu.cell (p := ⟨b, o + k * 5 + 4, none⟩) hBr).trans c4; have z0 := (hu.cell (p := ⟨b', o' + k * 5, none⟩) hBr').trans d0; have z1 := (hu.cell (p := ⟨b', o' + k * 5 + 1, none⟩) hBr').trans d1; have z2 := (hu.cell (p := ⟨b', o' + k * 5 + 2, none⟩) hBr').trans d2; have z3 := (hu.cell (p := ⟨b', o' + k * 5 + 3, none⟩) hBr').trans d3; have z4 := (hu.cell (p := ⟨b', o' + k * 5 + 4, none⟩) hBr').trans d4))
      all_goals
        have hc5 := hc.drew.trans (hu.mono hc.size)
        clear hu a9 b9 y0 z0 c0 d0 y1 z1 c1 d1 y2 z2 c2 d2 y3 z3 c3 d3 y4 z4 c4 d4
        go_wp2_with fail
        go_roundw
        case rel => exact ⟨k + 1, by omega, by go_num, HN.out, hc5⟩
        case measure => simp only [intOf]; omega
    · have hge : x.blocks.length ≤ k := by omega
      have GI := Lib.hid (show x.blocks = y.blocks from List.ext_getElem LL.out (fun j h1 h2 => hall j h1 h2 (by omega)))
      have HC := Lib.hid (HZ.out.2 (HX.out.2 ⟨Hparams.out, Hregs.out, GI.out⟩))
      clear hall
      go_wp2_with fail
      go_ret
      exact ⟨ret_bool HC.out.symm, hd⟩
end Go.Proofs.Ytjiimcbfniknoaa
