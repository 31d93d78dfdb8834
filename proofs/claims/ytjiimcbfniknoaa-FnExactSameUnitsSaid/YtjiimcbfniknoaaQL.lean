/-
  Units compared by the model.
-/
import Derived.Test.YtjiimcbfniknoaaQK
namespace Go.Proofs.Ytjiimcbfniknoaa
open Go.RowKit
set_option maxRecDepth 100000

open Classical in
set_option maxHeartbeats 8000000 in
theorem specSameUnits_any (x y : Un) (v v' : Value) (w : World) (hV : UnV w (Lt w.heap.size) x v) (hV' : UnV w (Lt w.heap.size) y v') (hk : bulkUn x ≤ 2000000) (hl : bulkUn y ≤ 2000000) :
    Calls Try.prog 22 #[v, v'] w (BoolB (decide (x = y)) w) := by
  obtain ⟨A, c, rfl, rA⟩ := hV
  obtain ⟨B, d, rfl, rB⟩ := hV'
  unfold bulkUn at hk hl
  have n1 := length_le_bulkR bulkCd x.codes
  have n2 := length_le_bulkR bulkCd y.codes
  have m1 : x.codes.length ≤ 2000000 := by omega
  have m2 : y.codes.length ≤ 2000000 := by omega
  have hb := two_boxes w (.cells #[.slice A x.codes.length c] 53) (.cells #[.slice B y.codes.length d] 53)
  have HX := Lib.hid (un_ext x y)
  have PA := Lib.hid rA
  have PB := Lib.hid rB
  have K1 := Lib.hid hk
  have K2 := Lib.hid hl
  clear hk hl rA rB n1 n2
  generalize hz : decide (x = y) = z at *
  have HZ := Lib.hid (show z = true ↔ x = y by rw [← hz]; exact decide_eq_true_iff)
  clear hz
  obtain ⟨S, U, _⟩ := two_new w [.slice A x.codes.length c] [.slice B y.codes.length d] 53 53
  have hl : w.heap.size + 1 < ((w.alloc (.cells #[.slice A x.codes.length c] 53)).alloc (.cells #[.slice B y.codes.length d] 53)).heap.size := by rw [World.size_alloc, World.size_alloc]; omega
  have HS := Lib.hid S
  have HU := Lib.hid U
  clear S U
  have NO := Lib.hid (show ¬ x = y → z = false from fun h => by
    cases z with
    | false => rfl
    | true => exact absurd (HZ.out.1 rfl) h)
  by_cases hcodes : x.codes.length = y.codes.length
  case neg =>
    have pcodes : (((x.codes.length : Nat) : Int) == ((y.codes.length : Nat) : Int)) = false := beq_no (by omega)
    have qcodes : (((x.codes.length : Nat) : Int) != ((y.codes.length : Nat) : Int)) = true := by rw [bne, pcodes]; rfl
    have HC := Lib.hid (NO.out fun e => hcodes (by rw [e]))
    have HB := Lib.hid hb
    clear hcodes
    go_enter Try.func22, Try.ntmps22
    go_wp2_with fail
    go_ret
    exact ⟨ret_bool HC.out.symm, HB.out⟩
  have pcodes : (((x.codes.length : Nat) : Int) == ((y.codes.length : Nat) : Int)) = true := beq_yes (by omega)
  have qcodes : (((x.codes.length : Nat) : Int) != ((y.codes.length : Nat) : Int)) = false := by rw [bne, pcodes]; rfl
  have Hcodes := Lib.hid hcodes
  clear hcodes
  have LL := Lib.hid (show x.codes.length = y.codes.length from Hcodes.out)
  go_enter Try.func22, Try.ntmps22
  go_wp2_with fail
  generalize (w.alloc (.cells #[.slice A x.codes.length c] 53)).alloc (.cells #[.slice B y.codes.length d] 53) = w1 at *
  go_loopw [5] (fun i wr => ∃ (k : Nat), k ≤ x.codes.length ∧ i = .int .i64 k ∧ (∀ j, (h : j < x.codes.length) → (h' : j < y.codes.length) → j < k → x.codes[j] = y.codes[j]) ∧ Below w1.heap.size w1 wr) (fun i _ => x.codes.length - (intOf i).toNat)
  case atStart => exact ⟨0, Nat.zero_le _, rfl, fun j _ _ hj => absurd hj (by omega), Below.refl _ _⟩
  case round =>
    obtain ⟨k, hk, rfl, hall, hc⟩ := hrel
    have hd := hb.trans (hc.mono hb.size)
    have hds := hd.size
    have a0 := (HS.out.below hc (by omega)) 0 _ rfl
    have b0 := (HU.out.below hc hl) 0 _ rfl
    by_cases hlt : k < x.codes.length
    · have hlt' : k < y.codes.length := by have := LL.out; omega
      have hlti : (k : Int) < x.codes.length := by omega
      have hlti' : (k : Int) < y.codes.length := by omega
      obtain ⟨b, o, rfl, hSb, ⟨c0, c1, ⟨Ablocks, ablocks, c2, rblocks⟩⟩⟩ := (PA.out.on hd hds).at_ hlt
      obtain ⟨b', o', rfl, hSb', ⟨d0, d1, ⟨Bblocks, eblocks, d2, sblocks⟩⟩⟩ := (PB.out.on hd hds).at_ hlt'
      have hm1 : bulkCd x.codes[k] ≤ 2000000 := Nat.le_trans (Nat.le_of_lt (bulkR_mem (f := bulkCd) (List.getElem_mem hlt))) K1.out
      have hm2 : bulkCd y.codes[k] ≤ 2000000 := Nat.le_trans (Nat.le_of_lt (bulkR_mem (f := bulkCd) (List.getElem_mem hlt'))) K2.out
      have hdr := (Below.refl wr.heap.size wr).drew
      have hBr : b < wr.heap.size := hSb
      have hBr' : b' < wr.heap.size := hSb'
      have hx1 : w.heap.size < wr.heap.size := by have := hc.size; omega
      have hx2 : w.heap.size + 1 < wr.heap.size := by have := hc.size; omega
      have CK := Lib.hid (l7SameCode_any x.codes[k] y.codes[k] _ _ wr.drew ⟨Ablocks, ablocks, rfl, rblocks.on hdr hdr.size⟩ ⟨Bblocks, eblocks, rfl, sblocks.on hdr hdr.size⟩ hm1 hm2)
      have HNE := Lib.hid (show ¬ x.codes[k] = y.codes[k] → z = false from fun h => NO.out fun e => h (by subst e; rfl))
      have HSTEP := Lib.hid (show x.codes[k] = y.codes[k] → ∀ j, (h : j < x.codes.length) → (h' : j < y.codes.length) → j < k + 1 → x.codes[j] = y.codes[j] from fun he j h1 h2 hjk => by
        by_cases e : j = k
        · subst e; exact he
        · exact hall j h1 h2 (by omega))
      clear hall hm1 hm2 rblocks sblocks
      generalize x.codes[k] = f at *
      generalize y.codes[k] = g at *
      have DZ := Lib.hid (show decide (f = g) = true ↔ f = g from decide_eq_true_iff)
      generalize decide (f = g) = zz at *
      clear hdr
      cases zz with
      | false =>
        have HC := Lib.hid (HNE.out fun e => by have := DZ.out.2 e; cases this)
        go_wp2_with fail
        go_region_held3 (fun u => u.cell? ⟨w.heap.size, 0, none⟩ = some (.slice (some ⟨b, o, none⟩) x.codes.length c) ∧ u.cell? ⟨w.heap.size + 1, 0, none⟩ = some (.slice (some ⟨b', o', none⟩) y.codes.length d) ∧ u.cell? ⟨b, o + k * 3, none⟩ = some (.int .i64 f.params) ∧ u.cell? ⟨b, o + k * 3 + 1, none⟩ = some (.int .i64 f.regs) ∧ u.cell? ⟨b, o + k * 3 + 2, none⟩ = some (.slice Ablocks f.blocks.length ablocks) ∧ u.cell? ⟨b', o' + k * 3, none⟩ = some (.int .i64 g.params) ∧ u.cell? ⟨b', o' + k * 3 + 1, none⟩ = some (.int .i64 g.regs) ∧ u.cell? ⟨b', o' + k * 3 + 2, none⟩ = some (.slice Bblocks g.blocks.length eblocks)) (go_keep) (first | (go_at_call 40; (with_reducible refine Calls.mono CK.out ?_); rintro ee w5 ⟨rfl, hu⟩; have a9 := (hu.cell (p := ⟨w.heap.size, 0, none⟩) hx1).trans a0; have b9 := (hu.cell (p := ⟨w.heap.size + 1, 0, none⟩) hx2).trans b0; have y0 := (hu.cell (p := ⟨b, o + k * 3, none⟩) hBr).trans c0; have y1 := (hu.cell (p := ⟨b, o + k * 3 + 1, none⟩) hBr).trans c1; have y2 := (hu.cell (p := ⟨b, o + k * 3 + 2, none⟩) hBr).trans c2; have z0 := (hu.cell (p := ⟨b', o' + k * 3, none⟩) hBr').trans d0; have z1 := (hu.cell (p := ⟨b', o' + k * 3 + 1, none⟩) hBr').trans d1; have z2 := (hu.cell (p := ⟨b', o' + k * 3 + 2, none⟩) hBr').trans d2))
        all_goals
          have hd5 := hd.drew.trans (hu.mono hd.size)
          clear hu a9 b9 y0 z0 c0 d0 y1 z1 c1 d1 y2 z2 c2 d2
          go_wp2_with fail
          go_ret
          exact ⟨ret_bool HC.out.symm, hd5⟩
      | true =>
      have HN := Lib.hid (HSTEP.out (DZ.out.1 rfl))
      go_wp2_with fail
      go_region_held3 (fun u => u.cell? ⟨w.heap.size, 0, none⟩ = some (.slice (some ⟨b, o, none⟩) x.codes.length c) ∧ u.cell? ⟨w.heap.size + 1, 0, none⟩ = some (.slice (some ⟨b', o', none⟩) y.codes.length d) ∧ u.cell? ⟨b, o + k * 3, none⟩ = some (.int .i64 f.params) ∧ u.cell? ⟨b, o + k * 3 + 1, none⟩ = some (.int .i64 f.regs) ∧ u.cell? ⟨b, o + k * 3 + 2, none⟩ = some (.slice Ablocks f.blocks.length ablocks) ∧ u.cell? ⟨b', o' + k * 3, none⟩ = some (.int .i64 g.params) ∧ u.cell? ⟨b', o' + k * 3 + 1, none⟩ = some (.int .i64 g.regs) ∧ u.cell? ⟨b', o' + k * 3 + 2, none⟩ = some (.slice Bblocks g.blocks.length eblocks)) (go_keep) (first | (go_at_call 40; (with_reducible refine Calls.mono CK.out ?_); rintro ee w5 ⟨rfl, hu⟩; have a9 := (hu.cell (p := ⟨w.heap.size, 0, none⟩) hx1).trans a0; have b9 := (hu.cell (p := ⟨w.heap.size + 1, 0, none⟩) hx2).trans b0; have y0 := (hu.cell (p := ⟨b, o + k * 3, none⟩) hBr).trans c0; have y1 := (hu.cell (p := ⟨b, o + k * 3 + 1, none⟩) hBr).trans c1; have y2 := (hu.cell (p := ⟨b, o + k * 3 + 2, none⟩) hBr).trans c2; have z0 := (hu.cell (p := ⟨b', o' + k * 3, none⟩) hBr').trans d0; have z1 := (hu.cell (p := ⟨b', o' + k * 3 + 1, none⟩) hBr').trans d1; have z2 := (hu.cell (p := ⟨b', o' + k * 3 + 2, none⟩) hBr').trans d2))
      all_goals
        have hc5 := hc.drew.trans (hu.mono hc.size)
        clear hu a9 b9 y0 z0 c0 d0 y1 z1 c1 d1 y2 z2 c2 d2
        go_wp2_with fail
        go_roundw
        case rel => exact ⟨k + 1, by omega, by go_num, HN.out, hc5⟩
        case measure => simp only [intOf]; omega
    · have hge : x.codes.length ≤ k := by omega
      have GI := Lib.hid (show x.codes = y.codes from List.ext_getElem LL.out (fun j h1 h2 => hall j h1 h2 (by omega)))
      have HC := Lib.hid (HZ.out.2 (HX.out.2 GI.out))
      clear hall
      go_wp2_with fail
      go_ret
      exact ⟨ret_bool HC.out.symm, hd⟩
end Go.Proofs.Ytjiimcbfniknoaa
