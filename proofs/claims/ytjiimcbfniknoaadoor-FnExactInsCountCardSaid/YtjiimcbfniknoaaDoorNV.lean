/-
  How many instructions the model counts.
-/
import Derived.Test.YtjiimcbfniknoaaDoorNU
namespace Go.Proofs.YtjiimcbfniknoaaDoor
open Go.RowKit
set_option maxRecDepth 100000

set_option maxHeartbeats 8000000 in
theorem specInsCount_any (u : Un) (hn : bulkUn u ≤ 1048576) (v : Value) (w : World) (hV : UnV w (Lt w.heap.size) u v) :
    Calls Tryd.prog 18 #[v] w (IntB (insCountI u) w) := by
  have CV := fun W (h : Below w.heap.size w W) => Lib.hid (specUnitValid_any u hn v W (hV.on h h.size))
  have HV := Lib.hid (show insCountI u = if unB u then (cntCL u.codes : Int) else -1 from rfl)
  generalize insCountI u = res at *
  generalize unB u = z at *
  obtain ⟨A, cap, rfl, hR⟩ := hV
  obtain ⟨cs⟩ := u
  unfold bulkUn at hn
  dsimp only at *
  have hcb : cntCL cs ≤ 1048576 := by have := cntCL_bulk cs; omega
  have hln : cs.length ≤ 1048576 := by have := length_le_bulkR bulkCd cs; omega
  have HLB := Lib.hid (show ∀ i, (h : i < cs.length) → cs[i].blocks.length ≤ 1048576 from fun i h => by
    have := bulkR_mem (f := bulkCd) (List.getElem_mem h)
    have := length_le_bulkR bulkBk cs[i].blocks
    unfold bulkCd at *; omega)
  have HCB := Lib.hid hcb
  have HR := Lib.hid hR
  clear hR hn hcb
  have hb0 : Below w.heap.size w (w.alloc (.cells #[.slice A cs.length cap] 38)) := (Below.refl _ _).alloc (Nat.le_refl _) _
  have hl0 : w.heap.size < (w.alloc (.cells #[.slice A cs.length cap] 38)).heap.size := by rw [World.size_alloc]; omega
  have K0 := Lib.hid (BoxV.new w [.slice A cs.length cap] 38)
  cases z
  · have HW := Lib.hid (show res = -1 by rw [HV.out]; rfl)
    clear HV
    go_enter Tryd.func18, Tryd.ntmps18
    go_wp2_with fail
    (with_reducible refine Calls.mono (CV _ hb0).out ?_)
    rintro ee w1 ⟨rfl, hb1⟩
    have hb2 := hb0.trans (hb1.mono hb0.size)
    go_wp2_with fail
    go_ret
    exact ⟨ret_int' HW.out.symm, hb2⟩
  have HW := Lib.hid (show res = (cntCL cs : Int) by rw [HV.out]; rfl)
  clear HV
  go_enter Tryd.func18, Tryd.ntmps18
  go_wp2_with fail
  (with_reducible refine Calls.mono (CV _ hb0).out ?_)
  rintro ee w1 ⟨rfl, hb1⟩
  have hb2 := hb0.trans (hb1.mono hb0.size)
  have K1 := Lib.hid (K0.out.below hb1 hl0)
  have hl1 := Nat.lt_of_lt_of_le hl0 hb1.size
  clear CV K0 hb0 hl0 hb1
  go_wp2_with fail
  go_loopw [3, 4] (fun v i wr => ∃ (k : Nat), k ≤ cs.length ∧ i = .int .i64 k ∧ v = .int .i64 (cntCL (cs.take k) : Nat) ∧ Below w1.heap.size w1 wr) (fun _ i _ => cs.length - (intOf i).toNat)
  case atStart => exact ⟨0, Nat.zero_le _, rfl, rfl, Below.refl _ _⟩
  case round =>
    obtain ⟨k, hk, rfl, rfl, hb3⟩ := hrel
    have hb4 := hb2.trans (hb3.mono hb2.size)
    have hbs4 := hb4.size
    have Kr := Lib.hid (K1.out.below hb3 hl1)
    have hlr := Nat.lt_of_lt_of_le hl1 hb3.size
    have k0 := Kr.out 0 _ rfl
    by_cases hlt : k < cs.length
    · obtain ⟨b, o, hA, hB, d0, d1, A2, c2, d2, r2⟩ := (HR.out.on hb4 hbs4).at_ hlt
      have HT := Lib.hid (cntCL_take hlt)
      have HLE := Lib.hid (Nat.le_trans (cntCL_le cs (k + 1)) HCB.out)
      have hlb := HLB.out k hlt
      have HXX := Lib.hid (show cntC cs[k] = cntBL cs[k].blocks from rfl)
      have HR2 := Lib.hid r2
      clear r2
      generalize cntC cs[k] = cc at *
      generalize cs[k] = c at *
      obtain ⟨p, g, bs⟩ := c
      dsimp only at *
      subst hA
      generalize hm : cntCL (cs.take k) = m at *
      have hBr : b < wr.heap.size := hB
      go_wp2_with fail
      go_loopw [3, 5] (fun v i u => ∃ (n : Nat), n ≤ bs.length ∧ i = .int .i64 n ∧ v = .int .i64 ((m + cntBL (bs.take n) : Nat) : Int) ∧ Below wr.heap.size wr u) (fun _ i _ => bs.length - (intOf i).toNat)
      case atStart => exact ⟨0, Nat.zero_le _, rfl, rfl, Below.refl _ _⟩
      case round =>
        obtain ⟨n, hnn, rfl, rfl, hb5⟩ := hrel
        have e2 := (hb5.cell (p := ⟨b, o + k * 3 + 2, none⟩) hBr).trans d2
        have Ku := Lib.hid (Kr.out.below hb5 hlr)
        clear k0
        have k0 := Ku.out 0 _ rfl
        by_cases hln2 : n < bs.length
        · obtain ⟨b4, o4, rfl, hB4, ⟨A5, c5, f0, _⟩, ⟨A6, c6, f1, _⟩, _⟩ := (HR2.out.on hb5 hb5.size).at_ hln2
          have HT2 := Lib.hid (cntBL_take hln2)
          have hle2 : m + cntBL (bs.take (n + 1)) ≤ 1048576 := by have := HLE.out; have := HT.out; have := HXX.out; have := cntBL_le bs (n + 1); omega
          have HX2 := Lib.hid (show cntB bs[n] = bs[n].ins.length + bs[n].phis.length from rfl)
          generalize cntB bs[n] = cb at *
          generalize bs[n] = y at *
          obtain ⟨y0, y1, y2, y3, y4⟩ := y
          dsimp only at *
          have hle3 : m + cntBL (bs.take n) + (y1.length + y0.length) ≤ 1048576 := by have := HT2.out; have := HX2.out; omega
          generalize hm2 : cntBL (bs.take n) = m2 at *
          go_wp2_with fail
          go_quiet (fail)
          all_goals
            have hb6 := below_drewN hb5 nq
            go_wp2_with fail
            go_roundw
            case rel => exact ⟨n + 1, by omega, by go_num, ret_int'' (by rw [HT2.out, HX2.out]; omega), hb6⟩
            case measure => simp only [intOf]; omega
        · obtain rfl : n = bs.length := by omega
          go_wp2_with fail
          go_roundw
          case rel => exact ⟨k + 1, by omega, by go_num, ret_int'' (by rw [HT.out, HXX.out, List.take_length]), hb3.trans (hb5.mono hb3.size)⟩
          case measure => simp only [intOf]; omega
    · obtain rfl : k = cs.length := by omega
      have HE := Lib.hid (show cs.take cs.length = cs from List.take_length)
      go_wp2_with fail
      go_ret
      exact ⟨ret_int' (by rw [HE.out, HW.out]), hb4⟩
end Go.Proofs.YtjiimcbfniknoaaDoor
