/-
  When the program takes a code, a unit for one; how many instructions it counts.
-/
import Derived.Test.YtomhomnibikceaaDoorNO
namespace Go.Proofs.YtomhomnibikceaaDoor
open Go.RowKit
set_option maxRecDepth 100000

set_option maxHeartbeats 2000000 in
theorem insOne_any (c : Cd) (A : Option Addr) (cap : Nat) (x : Ik) (v : Value) (es : List Cd) (AE : Option Addr) (capE : Nat) (g h : Nat) (w : World) (hg : BoxV w g [.int .i64 c.params, .int .i64 c.regs, .slice A c.blocks.length cap]) (hlg : g < w.heap.size) (hh : BoxV w h [.slice AE es.length capE]) (hlh : h < w.heap.size)
    (hV : IkV w (Lt w.heap.size) x v) (hE : CdS w (Lt w.heap.size) es AE) (hbk : bulkIk x ≤ 1048576) (hel : es.length ≤ 1048576) (T : InsT w) :
    Calls Tryd.prog 73 #[v, .pointer (some ⟨g, 0, none⟩), .pointer (some ⟨h, 0, none⟩)] w (BoolB (insB es es.length c x) w) := by
  have CI := fun W (hb : Below w.heap.size w W) => Lib.hid (insFits_any c A cap x v es AE capE W (hV.on hb hb.size) (hE.on hb hb.size) hbk hel (T.below hb))
  generalize insB es es.length c x = z at *
  obtain ⟨A2, c2, rfl, _⟩ := hV
  unfold cdv at CI
  clear hE hbk T
  have hb : Below w.heap.size w (w.alloc (.cells #[.int .i64 x.op, .int .i64 x.to, .slice A2 x.args.length c2, .int .i64 x.n] 62)) := (Below.refl _ _).alloc (Nat.le_refl _) _
  have a0 := hg.below hb hlg 0 _ rfl
  have a1 := hg.below hb hlg 1 _ rfl
  have a2 := hg.below hb hlg 2 _ rfl
  have b0 := hh.below hb hlh 0 _ rfl
  clear hg hh
  have CI1 := Lib.hid (CI _ hb).out
  clear CI
  have hbs := hb.size
  go_enter Tryd.func73, Tryd.ntmps73
  go_wp2_with fail
  (with_reducible refine Calls.mono CI1.out ?_)
  rintro ee w1 ⟨rfl, hb1⟩
  have hb2 := hb.trans (hb1.mono hbs)
  go_wp2_with fail
  go_ret
  exact ⟨rfl, hb2⟩
set_option maxHeartbeats 4000000 in
theorem codeFits_any (c : Cd) (A : Option Addr) (cap : Nat) (es : List Cd) (AE : Option Addr) (capE : Nat) (w : World) (hR : BkS w (Lt w.heap.size) c.blocks A) (hE : CdS w (Lt w.heap.size) es AE) (hn : bulkCd c ≤ 1048576) (hel : es.length ≤ 1048576) (T : InsT w) (J : JmpT w) :
    Calls Tryd.prog 48 #[cdv c A cap, .slice AE es.length capE] w (BoolB (codeB es es.length c) w) := by
  have hln : c.blocks.length ≤ 1048576 := by have := length_le_bulkR bulkBk c.blocks; unfold bulkCd at hn; omega
  have HV := Lib.hid (codeB_iff es es.length c)
  generalize codeB es es.length c = res at *
  have hb : Below w.heap.size w ((w.alloc (.cells #[.int .i64 c.params, .int .i64 c.regs, .slice A c.blocks.length cap] 44)).alloc (.cells #[.slice AE es.length capE] 28)) := two_boxes w _ _
  have sz1 : (w.alloc (.cells #[.int .i64 c.params, .int .i64 c.regs, .slice A c.blocks.length cap] 44)).heap.size = w.heap.size + 1 := World.size_alloc _ _
  have K0 := Lib.hid ((BoxV.new w [.int .i64 c.params, .int .i64 c.regs, .slice A c.blocks.length cap] 44).below ((Below.refl _ _).alloc (Nat.le_refl _) (.cells #[.slice AE es.length capE] 28)) (by rw [World.size_alloc]; omega))
  have X0 := BoxV.new (w.alloc (.cells #[.int .i64 c.params, .int .i64 c.regs, .slice A c.blocks.length cap] 44)) [.slice AE es.length capE] 28
  rw [sz1] at X0
  replace X0 := Lib.hid X0
  have hx0 : w.heap.size + 1 < ((w.alloc (.cells #[.int .i64 c.params, .int .i64 c.regs, .slice A c.blocks.length cap] 44)).alloc (.cells #[.slice AE es.length capE] 28)).heap.size := by rw [World.size_alloc, sz1]; omega
  clear sz1
  have hbs := hb.size
  have CJ := Lib.hid (allBlock_of (jumpB c) c.blocks hln A cap (cdv c A cap) _ (hR.on hb hb.size) (fun i hi v W h hv => jumpFits_any c A cap c.blocks[i] v W hv (bulk_block hi hn) hln (J.below (hb.trans (h.mono hb.size)))))
  have HI : Hid (∀ (k : Nat) (hk : k < c.blocks.length) (W : World) (h : Below w.heap.size w W) (Ai : Option Addr) (ci : Nat), IkS W (Lt W.heap.size) c.blocks[k].ins Ai → BoxV W w.heap.size [.int .i64 c.params, .int .i64 c.regs, .slice A c.blocks.length cap] → BoxV W (w.heap.size + 1) [.slice AE es.length capE] → w.heap.size + 1 < W.heap.size →
      Calls Tryd.prog 72 #[.slice Ai c.blocks[k].ins.length ci, .func (.func 73) #[] #[.pointer (some ⟨w.heap.size, 0, none⟩), .pointer (some ⟨w.heap.size + 1, 0, none⟩)]] W (BoolB (c.blocks[k].ins.all (insB es es.length c)) W)) := Lib.hid fun k hk W h Ai ci hi hg hh hl => by
    have hp := (bulk_parts (bulk_block hk hn)).2.1
    refine allIns_of (insB es es.length c) c.blocks[k].ins (by have := length_le_bulkR bulkIk c.blocks[k].ins; omega) Ai ci w.heap.size (w.heap.size + 1) W hi (fun i hi' v W' h' hv => ?_)
    have hbw := h.trans (h'.mono h.size)
    exact insOne_any c A cap _ v es AE capE _ _ W' (hg.below h' (Nat.lt_of_succ_lt hl)) (Nat.lt_of_lt_of_le (Nat.lt_of_succ_lt hl) h'.size) (hh.below h' hl) (Nat.lt_of_lt_of_le hl h'.size) hv (hE.on hbw hbw.size) (by
      have := bulkR_mem (f := bulkIk) (List.getElem_mem hi'); omega) hel (T.below hbw)
  have HP : Hid (∀ (k : Nat) (hk : k < c.blocks.length) (W : World) (_ : Below w.heap.size w W), Calls Tryd.prog 71 #[cdv c A cap, .int .i64 k] W (BoolB (c.blocks[k].phis.all (phiB c k)) W)) := Lib.hid fun k hk W h => phisFit_any c A cap k hk W (hR.on h h.size) hn
  clear T J hE hel
  have HR := Lib.hid hR
  clear hR hn
  have HZ := Lib.hid (show c.blocks.all (jumpB c) = true → ∀ b, (h : b < c.blocks.length) → jumpB c c.blocks[b] = true from fun h => all_iff.1 h)
  have HZ' := Lib.hid (show (∀ b, (h : b < c.blocks.length) → blockB es es.length c b c.blocks[b] = true) → c.blocks.all (jumpB c) = true from fun h => all_yes fun i hi => by
    have := h i hi
    unfold blockB at this
    rw [Bool.and_eq_true] at this
    exact this.1)
  generalize c.blocks.all (jumpB c) = zj at *
  unfold cdv at CJ HP ⊢
  have c0 := K0.out 0 _ rfl
  have c1 := K0.out 1 _ rfl
  have c2 := K0.out 2 _ rfl
  cases zj
  · have HW := Lib.hid (show res = false by
      cases res
      · rfl
      · exact absurd (HZ'.out (HV.out.1 rfl)) (by simp))
    go_enter Tryd.func48, Tryd.ntmps48
    go_wp2_with fail
    (with_reducible refine Calls.mono CJ.out ?_)
    rintro ee w1 ⟨rfl, hb1⟩
    have hb2 := hb.trans (hb1.mono hbs)
    go_wp2_with fail
    go_ret
    exact ⟨ret_bool' HW.out.symm, hb2⟩
  · go_enter Tryd.func48, Tryd.ntmps48
    go_wp2_with fail
    (with_reducible refine Calls.mono CJ.out ?_)
    rintro ee w1 ⟨rfl, hb1⟩
    have K1 := Lib.hid (K0.out.below hb1 (Nat.lt_of_succ_lt hx0))
    have X1 := Lib.hid (X0.out.below hb1 hx0)
    have hx1 := Nat.lt_of_lt_of_le hx0 hb1.size
    have hb2 := hb.trans (hb1.mono hbs)
    have k2 := K1.out 2 _ rfl
    clear K0 X0 hx0 hb1 hb hbs CJ c0 c1 c2
    go_wp2_with fail
    go_loopw [16] (fun i wr => ∃ (k : Nat), k ≤ c.blocks.length ∧ i = .int .i64 k ∧ (∀ j, (h : j < c.blocks.length) → j < k → c.blocks[j].phis.all (phiB c j) = true ∧ c.blocks[j].ins.all (insB es es.length c) = true) ∧ Below w1.heap.size w1 wr) (fun i _ => c.blocks.length - (intOf i).toNat)
    case atStart => exact ⟨0, Nat.zero_le _, rfl, fun j _ hj => absurd hj (by omega), Below.refl _ _⟩
    case round =>
      clear k2
      obtain ⟨k, hk, rfl, hall, hb3⟩ := hrel
      have HA := Lib.hid hall
      clear hall
      have hb4 := hb2.trans (hb3.mono hb2.size)
      have hbs4 := hb4.size
      by_cases hlt : k < c.blocks.length
      · obtain ⟨bb, o, hA, hB, ⟨A0, e0, d0, r0⟩, ⟨A1, e1, d1, r1⟩, d2, d3, A4, e4, d4, r4⟩ := (HR.out.on hb4 hb4.size).at_ hlt
        have KR := Lib.hid (K1.out.below hb3 (Nat.lt_of_succ_lt hx1))
        have XR := Lib.hid (X1.out.below hb3 hx1)
        have hxr := Nat.lt_of_lt_of_le hx1 hb3.size
        have CP := HP.out k hlt
        have CI := HI.out k hlt
        have HS := Lib.hid (show c.blocks[k].phis.all (phiB c k) = true → c.blocks[k].ins.all (insB es es.length c) = true → ∀ j, (h : j < c.blocks.length) → j < k + 1 → c.blocks[j].phis.all (phiB c j) = true ∧ c.blocks[j].ins.all (insB es es.length c) = true from fun h1 h2 j hj hjk => by
          by_cases e : j = k
          · subst e; exact ⟨h1, h2⟩
          · exact HA.out j hj (by omega))
        have HF := Lib.hid (show (c.blocks[k].phis.all (phiB c k) = false ∨ c.blocks[k].ins.all (insB es es.length c) = false) → res = false from fun h => by
          cases res
          · rfl
          · have := HV.out.1 rfl k hlt
            unfold blockB at this
            rw [Bool.and_eq_true, Bool.and_eq_true] at this
            rcases h with h | h
            · rw [h] at this; exact absurd this.2.2 (by simp)
            · rw [h] at this; exact absurd this.2.1 (by simp))
        have hal := (Below.refl wr.heap.size wr).alloc (Nat.le_refl _) (.cells #[.slice A0 c.blocks[k].phis.length e0, .slice A1 c.blocks[k].ins.length e1, .int .i64 c.blocks[k].jump, .int .i64 c.blocks[k].on, .slice A4 c.blocks[k].next.length e4] 56)
        have hb5 := hb4.trans (hal.mono hbs4)
        have K5 := Lib.hid (KR.out.below hal (Nat.lt_of_succ_lt hxr))
        have X5 := Lib.hid (XR.out.below hal hxr)
        have hx5 := Nat.lt_of_lt_of_le hxr hal.size
        have HI5 := Lib.hid (r1.on hal hal.size)
        have Y5 := Lib.hid (BoxV.new wr [.slice A0 c.blocks[k].phis.length e0, .slice A1 c.blocks[k].ins.length e1, .int .i64 c.blocks[k].jump, .int .i64 c.blocks[k].on, .slice A4 c.blocks[k].next.length e4] 56)
        have hy5 : wr.heap.size < (wr.alloc (.cells #[.slice A0 c.blocks[k].phis.length e0, .slice A1 c.blocks[k].ins.length e1, .int .i64 c.blocks[k].jump, .int .i64 c.blocks[k].on, .slice A4 c.blocks[k].next.length e4] 56)).heap.size := by rw [World.size_alloc]; omega
        clear HA r0 r1 r4 HR HI HP HZ HZ' hal KR XR
        generalize hz1 : c.blocks[k].phis.all (phiB c k) = z1 at *
        generalize hz2 : c.blocks[k].ins.all (insB es es.length c) = z2 at *
        clear hz1 hz2
        generalize c.blocks[k] = x at *
        obtain ⟨x0, x1, x2, x3, x4⟩ := x
        dsimp only at *
        subst hA
        have hbb : Below w1.heap.size w1 (wr.alloc (.cells #[.slice A0 x0.length e0, .slice A1 x1.length e1, .int .i64 x2, .int .i64 x3, .slice A4 x4.length e4] 56)) := hb3.alloc hb3.size _
        have k0 := K5.out 0 _ rfl
        have k1 := K5.out 1 _ rfl
        have k2 := K5.out 2 _ rfl
        cases z1
        · have HW := Lib.hid (HF.out (.inl rfl))
          replace CP := fun W h => Lib.hid (CP W h)
          clear HF HS CI
          go_wp2_with fail
          (with_reducible refine Calls.mono (CP _ hb5).out ?_)
          rintro ee w6 ⟨rfl, hb6⟩
          have hb7 := hb5.trans (hb6.mono hb5.size)
          go_wp2_with fail
          go_ret
          exact ⟨ret_bool' HW.out.symm, hb7⟩
        · cases z2
          · have HW := Lib.hid (HF.out (.inr rfl))
            replace CP := fun W h => Lib.hid (CP W h)
            replace CI := Lib.hid CI
            clear HF HS
            go_wp2_with fail
            (with_reducible refine Calls.mono (CP _ hb5).out ?_)
            rintro ee w6 ⟨rfl, hb6⟩
            have hb7 := hb5.trans (hb6.mono hb5.size)
            have y1 := Y5.out.below hb6 hy5 1 _ rfl
            have CI6 := Lib.hid (CI.out w6 hb7 A1 e1 (HI5.out.on hb6 hb6.size) (K5.out.below hb6 (Nat.lt_of_succ_lt hx5)) (X5.out.below hb6 hx5) (Nat.lt_of_lt_of_le hx5 hb6.size))
            clear k0 k1 k2
            go_wp2_with fail
            (with_reducible refine Calls.mono CI6.out ?_)
            rintro ee w8 ⟨rfl, hb8⟩
            have hb9 := hb7.trans (hb8.mono hb7.size)
            go_wp2_with fail
            go_ret
            exact ⟨ret_bool' HW.out.symm, hb9⟩
          · have HW := Lib.hid (HS.out rfl rfl)
            replace CP := fun W h => Lib.hid (CP W h)
            replace CI := Lib.hid CI
            clear HF HS
            go_wp2_with fail
            (with_reducible refine Calls.mono (CP _ hb5).out ?_)
            rintro ee w6 ⟨rfl, hb6⟩
            have hb7 := hb5.trans (hb6.mono hb5.size)
            have hbb7 := hbb.trans (hb6.mono hbb.size)
            have y1 := Y5.out.below hb6 hy5 1 _ rfl
            have CI6 := Lib.hid (CI.out w6 hb7 A1 e1 (HI5.out.on hb6 hb6.size) (K5.out.below hb6 (Nat.lt_of_succ_lt hx5)) (X5.out.below hb6 hx5) (Nat.lt_of_lt_of_le hx5 hb6.size))
            clear k0 k1 k2
            go_wp2_with fail
            (with_reducible refine Calls.mono CI6.out ?_)
            rintro ee w8 ⟨rfl, hb8⟩
            have hbb9 := hbb7.trans (hb8.mono hbb7.size)
            go_wp2_with fail
            go_roundw
            case rel => exact ⟨k + 1, by omega, by go_num, HW.out, hbb9⟩
            case measure => simp only [intOf]; omega
      · obtain rfl : k = c.blocks.length := by omega
        have HW := Lib.hid (show res = true from HV.out.2 fun b hb => by
          have h1 := HZ.out (by trivial) b hb
          have h2 := HA.out b hb hb
          unfold blockB
          rw [h1, h2.1, h2.2]; rfl)
        go_wp2_with fail
        go_ret
        exact ⟨ret_bool' HW.out.symm, hb4⟩
end Go.Proofs.YtomhomnibikceaaDoor
