/-
  UnitText of the program.
-/
import Derived.Test.YtomhomnibikceaaDoorYD
namespace Go.Proofs.YtomhomnibikceaaDoor
open Go.RowKit
set_option maxRecDepth 100000

/-- The library's table of powers stands in the world. -/
structure PowT (w : World) : Prop where
  pow : Lib.TabIs Tryd.prog w "internal/strconv.uint64pow10" .u64 Lib.pow10Tab
  size : 2 < w.heap.size
theorem PowT.below {w w' : World} (T : PowT w) (hb : Below w.heap.size w w') : PowT w' :=
  ⟨var?_below hb (show Tryd.prog.globalNamed "internal/strconv.uint64pow10" = some 2 by kernel_rfl) T.size T.pow, Nat.lt_of_lt_of_le T.size hb.size⟩
theorem TE.of {w : World} (P : PowT w) (T : InsT w) (J : JmpT w) : TE w.heap.size w := ⟨Nat.le_refl _, fun W h => ⟨(P.below h).pow, T.below h, J.below h⟩⟩
set_option maxHeartbeats 4000000 in
theorem implUnitText_any (u : Un) (hn : bulkUn u ≤ 1048576) (v : Value) (w : World) (hV : UnV w (Lt w.heap.size) u v) (hv : ∃ A, v = .agg #[.slice A u.codes.length u.codes.length]) (P : PowT w) (T : InsT w) (J : JmpT w) :
    Calls Tryd.prog 16 #[v] w (TxRet (unitTx u) w) := by
  have UV := fun W (h : Below w.heap.size w W) => implUnitValid_any u hn v W (hV.on h h.size) hv (T.below h) (J.below h)
  obtain ⟨A', cap', e', hR⟩ := hV
  obtain ⟨A, rfl⟩ := hv
  obtain ⟨rfl, rfl⟩ : A = A' ∧ u.codes.length = cap' := by
    injection e' with e'
    simp at e'
    exact e'
  clear e'
  have HVA := Lib.hid (fun h => okCd_all (u := u) h)
  have HLE := Lib.hid (fun h => unT_le (u := u) h)
  have HNE := Lib.hid (fun h => unT_ne (u := u) h)
  have HU := Lib.hid (show unitTx u = if unB u = true then unT u else [] from rfl)
  have hln : u.codes.length ≤ 1048576 := by have := length_le_bulkR bulkCd u.codes; unfold bulkUn at hn; omega
  have hb0 : Below w.heap.size w (w.alloc (.cells #[.slice A u.codes.length u.codes.length] 30)) := (Below.refl _ _).alloc (Nat.le_refl _) _
  have hl0 : w.heap.size < (w.alloc (.cells #[.slice A u.codes.length u.codes.length] 30)).heap.size := by rw [World.size_alloc]; omega
  have K0 := Lib.hid (Bx.new w 30 #[.slice A u.codes.length u.codes.length])
  have k0 := show (w.alloc (.cells #[.slice A u.codes.length u.codes.length] 30)).cell? ⟨w.heap.size, 0, none⟩ = some (.slice A u.codes.length u.codes.length) from (K0.out.cell 0).trans rfl
  have UV1 := UV _ hb0
  clear UV
  have HR := Lib.hid hR
  have HTE := Lib.hid (fun W (h : Below w.heap.size w W) => TE.of (P.below h) (T.below h) (J.below h))
  have HN := Lib.hid hn
  clear hR P T J hn
  unfold BoolB at UV1
  have hz : ∃ z, unB u = z := ⟨_, rfl⟩
  obtain ⟨z, hz⟩ := hz
  rw [hz] at UV1
  replace UV1 := Lib.hid UV1
  cases z
  · have HW := Lib.hid (show unitTx u = [] by rw [HU.out, hz]; rfl)
    clear hz HTE K0 HR HVA
    go_enter Tryd.func16, Tryd.ntmps16
    go_wp2_with fail
    (with_reducible refine Calls.mono UV1.out ?_)
    rintro ee w1 ⟨rfl, hb1⟩
    have hb2 := hb0.trans (hb1.mono hb0.size)
    go_wp2_with fail
    go_ret
    exact ⟨by rw [HW.out]; rfl, hb2⟩
  have HW := Lib.hid (show unitTx u = unT u by rw [HU.out, hz]; rfl)
  have HOK := Lib.hid (HVA.out hz)
  have hle := HLE.out hz
  have HNN := Lib.hid (HNE.out hz)
  have hnn := HN.out
  clear hz HVA HLE HNE HU
  go_enter Tryd.func16, Tryd.ntmps16
  go_wp2_with fail
  generalize w.alloc (.cells #[.slice A u.codes.length u.codes.length] 30) = w0 at *
  (with_reducible refine Calls.mono UV1.out ?_)
  rintro ee w1 ⟨rfl, hb1⟩
  have hb2 := hb0.trans (hb1.mono hb0.size)
  have K1 := Lib.hid (K0.out.below hb1)
  have hTE := HTE.out w1 hb2
  have FB := Lib.hid (show Wr w1.heap.size w1.heap.size [] (w1.alloc (.cells #[.pointer none, .slice none 0 0] 67)) from Lib.fresh_isBuilder 67 5 w1)
  have hbf := (Below.refl w1.heap.size w1).alloc (Nat.le_refl _) (.cells #[.pointer none, .slice none 0 0] 67)
  have hlf : w1.heap.size < (w1.alloc (.cells #[.pointer none, .slice none 0 0] 67)).heap.size := by rw [World.size_alloc]; omega
  have k1 := show (w1.alloc (.cells #[.pointer none, .slice none 0 0] 67)).cell? ⟨w.heap.size, 0, none⟩ = some (.slice A u.codes.length u.codes.length) from ((K1.out.below hbf).cell 0).trans rfl
  have HE1 := Lib.hid hTE
  have HR1 := Lib.hid (fun W (h : Below w1.heap.size w1 W) => hb2.size)
  have HRR := Lib.hid (show ∀ W, Below w1.heap.size w1 W → CdS W (Lt w1.heap.size) u.codes A from fun W h => (HR.out.on hb2 hb2.size).on h (Nat.le_refl _))
  clear hb1 k0 K0 UV1 HTE hTE HR1 K1
  go_wp2_with fail
  generalize w1.alloc (.cells #[.pointer none, .slice none 0 0] 67) = w2 at *
  go_loopw [12] (fun i wr => ∃ n : Nat, n ≤ u.codes.length ∧ i = .int .i64 n ∧ Wr w1.heap.size w1.heap.size (catT codeT (u.codes.take n)) wr ∧ Below w1.heap.size w1 wr) (fun i _ => u.codes.length - (intOf i).toNat)
  case atStart => exact ⟨0, Nat.zero_le _, rfl, FB.out, hbf⟩
  case round =>
    clear FB hbf k1 hlf
    obtain ⟨n, hnl, rfl, hw, hbr⟩ := hrel
    have HWn := Lib.hid hw
    have hTE := HE1.out.next hbr
    have hEr := hTE.le
    have HTE := Lib.hid hTE
    clear hw hTE
    have hpre := catT_pre codeT u.codes n
    have hpre2 : (catT codeT (u.codes.take n)).length ≤ 104857600 := by have h : (catT codeT u.codes).length = (unT u).length := rfl; omega
    clear hpre
    by_cases hlt : n < u.codes.length
    · obtain ⟨bb, oo, rfl, hB, d0, d1, AP, cP, d2, rP⟩ := (HRR.out wr hbr).at_ hlt
      have HOC := Lib.hid (HOK.out n hlt)
      have HNN2 := Lib.hid (catT_take codeT hlt)
      have hbc := bulk_code hlt hnn
      generalize u.codes[n] = c at *
      have hal := (Below.refl wr.heap.size wr).alloc (Nat.le_refl _) (.cells #[.int .i64 c.params, .int .i64 c.regs, .slice AP c.blocks.length cP] 44)
      have hbx := hal.mono hEr
      have YB := Bx.new wr 44 #[.int .i64 c.params, .int .i64 c.regs, .slice AP c.blocks.length cP]
      have y0 := show (wr.alloc (.cells #[.int .i64 c.params, .int .i64 c.regs, .slice AP c.blocks.length cP] 44)).cell? ⟨wr.heap.size, 0, none⟩ = some (.int .i64 c.params) from (YB.cell 0).trans rfl
      have y1 := show (wr.alloc (.cells #[.int .i64 c.params, .int .i64 c.regs, .slice AP c.blocks.length cP] 44)).cell? ⟨wr.heap.size, 1, none⟩ = some (.int .i64 c.regs) from (YB.cell 1).trans rfl
      have y2 := show (wr.alloc (.cells #[.int .i64 c.params, .int .i64 c.regs, .slice AP c.blocks.length cP] 44)).cell? ⟨wr.heap.size, 2, none⟩ = some (.slice AP c.blocks.length cP) from (YB.cell 2).trans rfl
      have WP := Lib.hid (writeCode_any w1.heap.size w1.heap.size (catT codeT (u.codes.take n)) c (.agg #[.int .i64 c.params, .int .i64 c.regs, .slice AP c.blocks.length cP]) _ HOC.out (HTE.out.next hbx) (HWn.out.below hal) ⟨_, _, rfl, rP.on hbx (Nat.le_refl _)⟩ (by omega) hbc)
      have hbj2 := hbr.trans hbx
      clear hal rP YB HWn hbx
      go_wp2_with fail
      generalize wr.alloc (.cells #[.int .i64 c.params, .int .i64 c.regs, .slice AP c.blocks.length cP] 44) = wy at *
      (with_reducible refine Calls.mono WP.out ?_)
      rintro ee wz hret
      obtain ⟨rfl, hwn, hbn, _⟩ := hret
      have W3 := Lib.hid hwn
      have hbj3 := hbj2.trans hbn
      clear hwn hbn y0 y1 y2
      go_wp2_with fail
      go_roundw
      case rel => exact ⟨n + 1, by omega, by go_num, by rw [HNN2.out]; exact W3.out, hbj3⟩
      case measure => simp only [intOf]; omega
    · obtain rfl : n = u.codes.length := by omega
      have hw2 := HWn.out
      rw [List.take_length] at hw2
      have SR := Lib.hid (Tryd.Builder_String w1.heap.size w1.heap.size (catT codeT u.codes) _ hw2 HNN.out)
      clear hw2 HWn
      go_wp2_with fail
      (with_reducible refine Calls.mono SR.out ?_)
      rintro ee w7 ⟨rfl, hb11⟩
      have hb12 := hb2.trans ((hbr.trans hb11).mono hb2.size)
      go_wp2_with fail
      go_ret
      exact ⟨by rw [HW.out]; rfl, hb12⟩
end Go.Proofs.YtomhomnibikceaaDoor
