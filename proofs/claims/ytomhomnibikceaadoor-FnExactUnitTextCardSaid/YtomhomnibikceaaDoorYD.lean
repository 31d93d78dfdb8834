/-
  The code of a function and a whole unit, as the program writes them.
-/
import Derived.Test.YtomhomnibikceaaDoorYC
import Derived.Test.YtomhomnibikceaaDoorNQ
import Derived.Deep.RegionHeld3
namespace Go.Proofs.YtomhomnibikceaaDoor
open Go.RowKit
set_option maxRecDepth 100000

theorem lens_code {c : Cd} (hp : OkCd c) (hn : bulkCd c ≤ 1048576) : (∀ n ≤ c.blocks.length, (blkTo c.blocks n).length ≤ 104857600) ∧
    (∀ k, (h : k < c.blocks.length) → (catT phiT c.blocks[k].phis).length ≤ 104857600 ∧ (catT insTx c.blocks[k].ins).length ≤ 104857600 ∧ bulkBk c.blocks[k] ≤ 1048576) := by
  unfold bulkCd at hn
  refine ⟨fun n h => ?_, fun k h => ?_⟩
  · have h1 := blkTo_le hp.blocks hp.len n h
    have h2 := bulkR_rest bulkBk c.blocks n
    omega
  · have h0 := bulkR_mem (f := bulkBk) (List.getElem_mem h)
    have h1 := phisT_le (hp.blocks _ (List.getElem_mem h))
    have h2 := inssT_le (hp.blocks _ (List.getElem_mem h))
    have h3 : bulkBk c.blocks[k] = bulkR bulkPh c.blocks[k].phis + bulkR bulkIk c.blocks[k].ins + c.blocks[k].next.length := rfl
    omega
theorem lens_block {x : Bk} (h : bulkBk x ≤ 1048576) : (∀ j, (h : j < x.phis.length) → x.phis[j].args.length ≤ 1048576) ∧ (∀ j, (h : j < x.ins.length) → x.ins[j].args.length ≤ 1048576) ∧ x.next.length ≤ 1048576 ∧ x.phis.length ≤ 1048576 ∧ x.ins.length ≤ 1048576 := by
  have h3 : bulkBk x = bulkR bulkPh x.phis + bulkR bulkIk x.ins + x.next.length := rfl
  refine ⟨fun j hj => ?_, fun j hj => ?_, by omega, ?_, ?_⟩
  · have h0 := bulkR_mem (f := bulkPh) (List.getElem_mem hj)
    unfold bulkPh at h0 h3; omega
  · have h0 := bulkR_mem (f := bulkIk) (List.getElem_mem hj)
    unfold bulkIk at h0 h3; omega
  · have := length_le_bulkR bulkPh x.phis; omega
  · have := length_le_bulkR bulkIk x.ins; omega
theorem head_text2 (p r : Int) : ((((⟨#[99, 111, 100, 101, 32]⟩ : ByteArray) ++ tx (Lib.itoa p)) ++ ⟨#[32]⟩) ++ tx (Lib.itoa r)) ++ ⟨#[10]⟩ = tx ([99, 111, 100, 101, 32] ++ (Lib.itoa p ++ (32 :: (Lib.itoa r ++ [10])))) := by
  rw [show (⟨#[99, 111, 100, 101, 32]⟩ : ByteArray) = tx [99, 111, 100, 101, 32] from rfl, show (⟨#[32]⟩ : ByteArray) = tx [32] from rfl, show (⟨#[10]⟩ : ByteArray) = tx [10] from rfl, tx_app, tx_app, tx_app, tx_app]
  congr 1
  simp
set_option maxHeartbeats 8000000 in
theorem writeCode_any (B b : Nat) (bs : List UInt8) (c : Cd) (v : Value) (w : World) (hp : OkCd c) (hE : TE B w) (hW : Wr B b bs w) (hV : CdV w (Lt B) c v) (hl : bs.length ≤ 10000000000) (hn : bulkCd c ≤ 1048576) :
    Calls Tryd.prog 35 #[.pointer (some ⟨b, 0, none⟩), v] w (Wrote B b bs (codeT c) w) := by
  obtain ⟨A, cc, rfl, hR⟩ := hV
  have HR := Lib.hid (fun W (h : Below B w W) => hR.on h (Nat.le_refl B))
  obtain ⟨l1, l2⟩ := lens_code hp hn
  have HL1 := Lib.hid l1
  have HL2 := Lib.hid l2
  have hll : c.blocks.length ≤ 160 := hp.len
  have hhd := headT_le hp
  have HP := Lib.hid hp
  have hp1 := itoaS hp.params
  have hp2 := itoaS hp.regs
  have hbb := hW.lt
  have hBb := hW.le
  have hKb : w.heap.size ≠ b := by omega
  have K0 := Lib.hid (Bx.new w 44 #[.int .i64 c.params, .int .i64 c.regs, .slice A c.blocks.length cc])
  have hal := (Below.refl w.heap.size w).alloc (Nat.le_refl _) (.cells #[.int .i64 c.params, .int .i64 c.regs, .slice A c.blocks.length cc] 44)
  have hE_ := hE.le
  have hb_0 := hal.mono hE_
  have hE_0 := Nat.le_trans hE_ hal.size
  have HA0 := Lib.hid (Aside.of_below (b := b) hal)
  have HW0 := Lib.hid (hW.below hal)
  have HE := Lib.hid hE
  clear hE hW hal hR l1 l2 hp
  go_enter Tryd.func35, Tryd.ntmps35
  go_wp2_with fail
  generalize w.alloc (.cells #[.int .i64 c.params, .int .i64 c.regs, .slice A c.blocks.length cc] 44) = w0 at *
  have d0 := show w0.cell? ⟨w.heap.size, 0, none⟩ = some (.int .i64 c.params) from (K0.out.cell 0).trans rfl
  have d1 := show w0.cell? ⟨w.heap.size, 1, none⟩ = some (.int .i64 c.regs) from (K0.out.cell 1).trans rfl
  have C1 := Lib.hid (itoa_te B c.params HP.out.params w0.drew (HE.out.next hb_0.drew))
  have C2 := fun W (h : Below w0.drew.heap.size w0.drew W) => Lib.hid (itoa_te B c.regs HP.out.regs W (HE.out.next (hb_0.drew.trans (h.mono hE_0))))
  have K0d := Lib.hid (show Bx w0.drew w.heap.size _ _ from K0.out)
  have HT := Lib.hid (head_text2 c.params c.regs)
  have HHD := Lib.hid (show headT c = _ from rfl)
  have S1 := fun W (h : Below w0.drew.heap.size w0.drew W) => ws_any B b bs (headT c) _ HT.out W ((show Wr B b bs w0.drew from HW0.out).below h) (by omega) (Nat.le_trans hE_0 h.size)
  have z1 := tx_size (Lib.itoa c.params)
  have z2 := tx_size (Lib.itoa c.regs)
  unfold TxRet at C1 C2
  generalize tx (Lib.itoa c.params) = t1 at *
  generalize tx (Lib.itoa c.regs) = t2 at *
  replace S1 := fun W h => Lib.hid (S1 W h)
  have s1 : t1.size ≤ 20 := by omega
  have s2 : t2.size ≤ 20 := by omega
  have q1 : ¬ (9223372036854775807 < 5 + t1.size) := by omega
  have q2 : ¬ (9223372036854775807 < 5 + t1.size + 1) := by omega
  have q3 : ¬ (9223372036854775807 < 5 + t1.size + 1 + t2.size) := by omega
  have q4 : ¬ (9223372036854775807 < 5 + t1.size + 1 + t2.size + 1) := by omega
  clear z1 z2 hp1 hp2 HT
  go_region_held3 (fun u => u.cell? ⟨w.heap.size, 0, none⟩ = some (.int .i64 c.params) ∧ u.cell? ⟨w.heap.size, 1, none⟩ = some (.int .i64 c.regs)) (go_keep)
    (first
      | (go_at_call 54; (with_reducible refine Calls.mono C1.out ?_); rintro ee w1 ⟨rfl, hb1⟩; have K1 := Lib.hid (K0d.out.below hb1); have e0 := show w1.cell? ⟨w.heap.size, 0, none⟩ = some (.int .i64 c.params) from (K1.out.cell 0).trans rfl; have e1 := show w1.cell? ⟨w.heap.size, 1, none⟩ = some (.int .i64 c.regs) from (K1.out.cell 1).trans rfl)
      | (go_at_call 54; (with_reducible refine Calls.mono (C2 _ hb1).out ?_); rintro ee w2 ⟨rfl, hb2⟩; have K2 := Lib.hid (K1.out.below hb2); have f0 := show w2.cell? ⟨w.heap.size, 0, none⟩ = some (.int .i64 c.params) from (K2.out.cell 0).trans rfl; have f1 := show w2.cell? ⟨w.heap.size, 1, none⟩ = some (.int .i64 c.regs) from (K2.out.cell 1).trans rfl; have hb12 := hb1.trans (hb2.mono hb1.size))
      | (go_at_call 53; (with_reducible refine Calls.mono (S1 _ hb12).out ?_); rintro ee w3 ⟨rfl, hw3, hb3, ha3⟩; have K3 := Lib.hid (K2.out.aside ha3 (by decide) hKb); have g0 := show w3.cell? ⟨w.heap.size, 0, none⟩ = some (.int .i64 c.params) from (K3.out.cell 0).trans rfl; have g1 := show w3.cell? ⟨w.heap.size, 1, none⟩ = some (.int .i64 c.regs) from (K3.out.cell 1).trans rfl; have HW3 := Lib.hid hw3; have HA3 := Lib.hid ((HA0.out.trans (Aside.of_below (Below.refl w0.heap.size w0).drew)).trans ((Aside.of_below hb12).trans ha3)); have hb_3 := hb_0.drew.trans ((hb12.mono hE_0).trans hb3); clear hw3 ha3))
  all_goals
    have d2 := show w3.cell? ⟨w.heap.size, 2, none⟩ = some (.slice A c.blocks.length cc) from (K3.out.cell 2).trans rfl
    clear C1 C2 S1 K0 K0d K1 K2 e0 e1 f0 f1 g0 g1 d0 d1 hb1 hb2 hb3 hb12 HA0 HW0 q1 q2 q3 q4 s1 s2
    go_wp2_with fail
    go_loopw [25] (fun i wr => ∃ n : Nat, n ≤ c.blocks.length ∧ i = .int .i64 n ∧ Wr B b (bs ++ headT c ++ blkTo c.blocks n) wr ∧ Below B w wr ∧ Aside b w wr) (fun i _ => c.blocks.length - (intOf i).toNat)
    case atStart => exact ⟨0, Nat.zero_le _, rfl, by show Wr B b (bs ++ headT c ++ []) _; rw [List.append_nil]; exact HW3.out, hb_3, HA3.out⟩
    case round =>
      clear HW3 HA3 hb_3 K3 d2 hb_0 hE_0
      obtain ⟨n, hnl, rfl, hw, hb, ha⟩ := hrel
      generalize wr = wo at *
      have HWn := Lib.hid hw
      have HA := Lib.hid ha
      have hTE := (HE.out.next hb).le
      clear hw ha
      have hpre := HL1.out n hnl
      by_cases hlt : n < c.blocks.length
      · obtain ⟨bb, oo, rfl, hB, ⟨A0, c0, d0, r0⟩, ⟨A1, c1, d1, r1⟩, d2, d3, A4, c4, d4, r4⟩ := (HR.out wo hb).at_ hlt
        obtain ⟨lp, li, lb⟩ := HL2.out n hlt
        obtain ⟨m1, m2, m3, m4, m5⟩ := lens_block lb
        have HM1 := Lib.hid m1
        have HM2 := Lib.hid m2
        have HX := Lib.hid (HP.out.blocks _ (List.getElem_mem hlt))
        have HN := Lib.hid (blkTo_succ hlt)
        have R0 := Lib.hid (fun W (h : Below B wo W) => r0.on h (Nat.le_refl B))
        have R1 := Lib.hid (fun W (h : Below B wo W) => r1.on h (Nat.le_refl B))
        have R4 := Lib.hid (fun W (h : Below B wo W) => r4.on h (Nat.le_refl B))
        clear r0 r1 r4 m1 m2 lb HL1 HL2
        generalize c.blocks[n] = x at *
        have hsn : SmN (n : Int) := by unfold SmN; omega
        have hbbr := HWn.out.lt
        have hVb : wo.heap.size ≠ b := by omega
        have V0 := Lib.hid (Bx.new wo 56 #[.slice A0 x.phis.length c0, .slice A1 x.ins.length c1, .int .i64 x.jump, .int .i64 x.on, .slice A4 x.next.length c4])
        have hal := (Below.refl wo.heap.size wo).alloc (Nat.le_refl _) (.cells #[.slice A0 x.phis.length c0, .slice A1 x.ins.length c1, .int .i64 x.jump, .int .i64 x.on, .slice A4 x.next.length c4] 56)
        have hbr0 := (Below.refl B wo).trans (hal.mono hTE)
        have hsz0 := hal.size
        have C := Lib.hid (itoa_te B (n : Int) hsn _ (HE.out.next (hb.trans hbr0)))
        have W0 := Lib.hid (HWn.out.below hal)
        have A0' := Lib.hid (HA.out.trans (Aside.of_below hal))
        clear hal HA HWn
        have hz := tx_size (Lib.itoa (n : Int))
        have hi := itoaS hsn
        have HT := Lib.hid (show tx (Lib.itoa (n : Int)) ++ ⟨#[58, 10]⟩ = tx (Lib.itoa (n : Int) ++ [58, 10]) from by rw [show (⟨#[58, 10]⟩ : ByteArray) = tx [58, 10] from rfl, tx_app])
        have hlen1 : (Lib.itoa (n : Int) ++ [58, 10]).length ≤ 22 := by rw [List.length_append]; show _ + 2 ≤ 22; omega
        unfold TxRet at C
        generalize tx (Lib.itoa (n : Int)) = t at *
        have ht : t.size ≤ 20 := by omega
        clear hz
        go_wp2_with fail
        generalize wo.alloc (.cells #[.slice A0 x.phis.length c0, .slice A1 x.ins.length c1, .int .i64 x.jump, .int .i64 x.on, .slice A4 x.next.length c4] 56) = v0 at *
        (with_reducible refine Calls.mono C.out ?_)
        rintro ee v1 ⟨rfl, hb1⟩
        have hbr1 := hbr0.trans (hb1.mono (Nat.le_trans hTE hsz0))
        have hsz1 := Nat.le_trans hsz0 hb1.size
        have S := Lib.hid (ws_any B b (bs ++ headT c ++ blkTo c.blocks n) (Lib.itoa (n : Int) ++ [58, 10]) _ HT.out v1 (W0.out.below hb1) (by simp only [List.length_append] at *; omega) (Nat.le_trans hTE hsz1))
        have A1' := Lib.hid (A0'.out.trans (Aside.of_below hb1))
        have V1 := Lib.hid (V0.out.below hb1)
        clear hb1 C W0 A0' V0 d0 d1 d2 d3 d4
        go_wp2_with fail
        (with_reducible refine Calls.mono S.out ?_)
        rintro ee v2 ⟨rfl, hw2, hb2, ha2⟩
        have hbr2 := hbr1.trans hb2
        have hsz2 := Nat.le_trans hsz1 hb2.size
        have W2 := Lib.hid hw2
        have A2' := Lib.hid (A1'.out.trans ha2)
        have V2 := Lib.hid (V1.out.aside ha2 (by decide) hVb)
        have x0 := show v2.cell? ⟨wo.heap.size, 0, none⟩ = some (.slice A0 x.phis.length c0) from (V2.out.cell 0).trans rfl
        clear hw2 hb2 ha2 S A1' V1 HT
        go_wp2_with fail
        go_loopw [38] (fun i wr => ∃ j : Nat, j ≤ x.phis.length ∧ i = .int .i64 j ∧ Wr B b (bs ++ headT c ++ blkTo c.blocks n ++ (Lib.itoa (n : Int) ++ [58, 10]) ++ catT phiT (x.phis.take j)) wr ∧ Below B wo wr ∧ Aside b w wr ∧ Bx wr wo.heap.size 56 #[.slice A0 x.phis.length c0, .slice A1 x.ins.length c1, .int .i64 x.jump, .int .i64 x.on, .slice A4 x.next.length c4]) (fun i _ => x.phis.length - (intOf i).toNat)
        case atStart => exact ⟨0, Nat.zero_le _, rfl, by rw [List.take_zero]; show Wr B b (_ ++ []) _; rw [List.append_nil]; exact W2.out, hbr2, A2'.out, V2.out⟩
        case round =>
          clear W2 A2' V2 x0 hbr2 hsz2 hbr1 hsz1 hbr0 hsz0
          obtain ⟨j, hjl, rfl, hw, hbj, ha, hv⟩ := hrel
          have HWj := Lib.hid hw
          have HAj := Lib.hid ha
          have V := Lib.hid hv
          have hTj := Nat.le_trans hTE hbj.size
          have hEj := Lib.hid (HE.out.next (hb.trans hbj))
          clear hw ha hv
          have hpj := catT_pre phiT x.phis j
          by_cases hlj : j < x.phis.length
          · obtain ⟨b2, o2, rfl, hB2, d0, AP, cP, d1, rP⟩ := (R0.out wr hbj).at_ hlj
            have HQ := Lib.hid (HX.out.phis _ (List.getElem_mem hlj))
            have HNj := Lib.hid (catT_take phiT hlj)
            have hm := HM1.out j hlj
            generalize x.phis[j] = p at *
            have hal := (Below.refl wr.heap.size wr).alloc (Nat.le_refl _) (.cells #[.int .i64 p.to, .slice AP p.args.length cP] 58)
            have hbx := hal.mono hTj
            have y0 := show (wr.alloc (.cells #[.int .i64 p.to, .slice AP p.args.length cP] 58)).cell? ⟨wr.heap.size, 0, none⟩ = some (.int .i64 p.to) from ((Bx.new wr 58 #[.int .i64 p.to, .slice AP p.args.length cP]).cell 0).trans rfl
            have y1 := show (wr.alloc (.cells #[.int .i64 p.to, .slice AP p.args.length cP] 58)).cell? ⟨wr.heap.size, 1, none⟩ = some (.slice AP p.args.length cP) from ((Bx.new wr 58 #[.int .i64 p.to, .slice AP p.args.length cP]).cell 1).trans rfl
            have WP := Lib.hid (writePhi_any B b (bs ++ headT c ++ blkTo c.blocks n ++ (Lib.itoa (n : Int) ++ [58, 10]) ++ catT phiT (x.phis.take j)) p (.agg #[.int .i64 p.to, .slice AP p.args.length cP]) _ HQ.out (hEj.out.next hbx) (HWj.out.below hal) ⟨_, _, rfl, rP.on hbx (Nat.le_refl B)⟩ (by simp only [List.length_append] at *; omega) hm)
            have HA2 := Lib.hid (HAj.out.trans (Aside.of_below hal))
            have V2 := Lib.hid (V.out.below hal)
            have hbj2 := hbj.trans hbx
            clear hal HAj V rP
            go_wp2_with fail
            generalize wr.alloc (.cells #[.int .i64 p.to, .slice AP p.args.length cP] 58) = wy at *
            (with_reducible refine Calls.mono WP.out ?_)
            rintro ee wz hret
            obtain ⟨rfl, hwn, hbn, han⟩ := hret
            have W3 := Lib.hid hwn
            have HA3 := Lib.hid (HA2.out.trans han)
            have V3 := Lib.hid (V2.out.aside han (by decide) hVb)
            have hbj3 := hbj2.trans hbn
            clear hwn han hbn y0 y1
            go_wp2_with fail
            go_roundw
            case rel => exact ⟨j + 1, by omega, by go_num, by rw [HNj.out, ← List.append_assoc]; exact W3.out, hbj3, HA3.out, V3.out⟩
            case measure => simp only [intOf]; omega
          · obtain rfl : j = x.phis.length := by omega
            have HTK := Lib.hid (List.take_length (l := x.phis))
            have W3 := Lib.hid (show Wr B b (bs ++ headT c ++ blkTo c.blocks n ++ (Lib.itoa (n : Int) ++ [58, 10]) ++ catT phiT x.phis) wr from by have := HWj.out; rw [HTK.out] at this; exact this)
            have x1 := show wr.cell? ⟨wo.heap.size, 1, none⟩ = some (.slice A1 x.ins.length c1) from (V.out.cell 1).trans rfl
            clear HWj HTK hpj
            go_wp2_with fail
            generalize wr = wp at *
            go_loopw [49] (fun i wr => ∃ j : Nat, j ≤ x.ins.length ∧ i = .int .i64 j ∧ Wr B b (bs ++ headT c ++ blkTo c.blocks n ++ (Lib.itoa (n : Int) ++ [58, 10]) ++ catT phiT x.phis ++ catT insTx (x.ins.take j)) wr ∧ Below B wo wr ∧ Aside b w wr ∧ Bx wr wo.heap.size 56 #[.slice A0 x.phis.length c0, .slice A1 x.ins.length c1, .int .i64 x.jump, .int .i64 x.on, .slice A4 x.next.length c4]) (fun i _ => x.ins.length - (intOf i).toNat)
            case atStart => exact ⟨0, Nat.zero_le _, rfl, by rw [List.take_zero]; show Wr B b (_ ++ []) _; rw [List.append_nil]; exact W3.out, hbj, HAj.out, V.out⟩
            case round =>
              clear W3 HAj V x1 hbj hEj hTj
              obtain ⟨j, hjl, rfl, hw, hbj, ha, hv⟩ := hrel
              have HWj := Lib.hid hw
              have HAj := Lib.hid ha
              have V := Lib.hid hv
              have hTj := Nat.le_trans hTE hbj.size
              have hEj := Lib.hid (HE.out.next (hb.trans hbj))
              clear hw ha hv
              have hpj := catT_pre insTx x.ins j
              by_cases hlj : j < x.ins.length
              · obtain ⟨b2, o2, rfl, hB2, d0, d1, ⟨AP, cP, d2, rP⟩, d3⟩ := (R1.out wr hbj).at_ hlj
                have HQ := Lib.hid (HX.out.ins _ (List.getElem_mem hlj))
                have HNj := Lib.hid (catT_take insTx hlj)
                have hm := HM2.out j hlj
                generalize x.ins[j] = p at *
                have hal := (Below.refl wr.heap.size wr).alloc (Nat.le_refl _) (.cells #[.int .i64 p.op, .int .i64 p.to, .slice AP p.args.length cP, .int .i64 p.n] 62)
                have hbx := hal.mono hTj
                have YB := Bx.new wr 62 #[.int .i64 p.op, .int .i64 p.to, .slice AP p.args.length cP, .int .i64 p.n]
                have y0 := show (wr.alloc (.cells #[.int .i64 p.op, .int .i64 p.to, .slice AP p.args.length cP, .int .i64 p.n] 62)).cell? ⟨wr.heap.size, 0, none⟩ = some (.int .i64 p.op) from (YB.cell 0).trans rfl
                have y1 := show (wr.alloc (.cells #[.int .i64 p.op, .int .i64 p.to, .slice AP p.args.length cP, .int .i64 p.n] 62)).cell? ⟨wr.heap.size, 1, none⟩ = some (.int .i64 p.to) from (YB.cell 1).trans rfl
                have y2 := show (wr.alloc (.cells #[.int .i64 p.op, .int .i64 p.to, .slice AP p.args.length cP, .int .i64 p.n] 62)).cell? ⟨wr.heap.size, 2, none⟩ = some (.slice AP p.args.length cP) from (YB.cell 2).trans rfl
                have y3 := show (wr.alloc (.cells #[.int .i64 p.op, .int .i64 p.to, .slice AP p.args.length cP, .int .i64 p.n] 62)).cell? ⟨wr.heap.size, 3, none⟩ = some (.int .i64 p.n) from (YB.cell 3).trans rfl
                have WP := Lib.hid (writeIns_any B b (bs ++ headT c ++ blkTo c.blocks n ++ (Lib.itoa (n : Int) ++ [58, 10]) ++ catT phiT x.phis ++ catT insTx (x.ins.take j)) p (.agg #[.int .i64 p.op, .int .i64 p.to, .slice AP p.args.length cP, .int .i64 p.n]) _ HQ.out (hEj.out.next hbx) (HWj.out.below hal) ⟨_, _, rfl, rP.on hbx (Nat.le_refl B)⟩ (by simp only [List.length_append] at *; omega) hm)
                have HA2 := Lib.hid (HAj.out.trans (Aside.of_below hal))
                have V2 := Lib.hid (V.out.below hal)
                have hbj2 := hbj.trans hbx
                clear hal HAj V rP YB
                go_wp2_with fail
                generalize wr.alloc (.cells #[.int .i64 p.op, .int .i64 p.to, .slice AP p.args.length cP, .int .i64 p.n] 62) = wy at *
                (with_reducible refine Calls.mono WP.out ?_)
                rintro ee wz hret
                obtain ⟨rfl, hwn, hbn, han⟩ := hret
                have W3 := Lib.hid hwn
                have HA3 := Lib.hid (HA2.out.trans han)
                have V3 := Lib.hid (V2.out.aside han (by decide) hVb)
                have hbj3 := hbj2.trans hbn
                clear hwn han hbn y0 y1 y2 y3
                go_wp2_with fail
                go_roundw
                case rel => exact ⟨j + 1, by omega, by go_num, by rw [HNj.out, ← List.append_assoc]; exact W3.out, hbj3, HA3.out, V3.out⟩
                case measure => simp only [intOf]; omega
              · obtain rfl : j = x.ins.length := by omega
                have HTK := Lib.hid (List.take_length (l := x.ins))
                have W3 := Lib.hid (show Wr B b (bs ++ headT c ++ blkTo c.blocks n ++ (Lib.itoa (n : Int) ++ [58, 10]) ++ catT phiT x.phis ++ catT insTx x.ins) wr from by have := HWj.out; rw [HTK.out] at this; exact this)
                have y0 := show wr.cell? ⟨wo.heap.size, 0, none⟩ = some (.slice A0 x.phis.length c0) from (V.out.cell 0).trans rfl
                have y1 := show wr.cell? ⟨wo.heap.size, 1, none⟩ = some (.slice A1 x.ins.length c1) from (V.out.cell 1).trans rfl
                have y2 := show wr.cell? ⟨wo.heap.size, 2, none⟩ = some (.int .i64 x.jump) from (V.out.cell 2).trans rfl
                have y3 := show wr.cell? ⟨wo.heap.size, 3, none⟩ = some (.int .i64 x.on) from (V.out.cell 3).trans rfl
                have y4 := show wr.cell? ⟨wo.heap.size, 4, none⟩ = some (.slice A4 x.next.length c4) from (V.out.cell 4).trans rfl
                have WJ := Lib.hid (writeJump_any B b (bs ++ headT c ++ blkTo c.blocks n ++ (Lib.itoa (n : Int) ++ [58, 10]) ++ catT phiT x.phis ++ catT insTx x.ins) x (.agg #[.slice A0 x.phis.length c0, .slice A1 x.ins.length c1, .int .i64 x.jump, .int .i64 x.on, .slice A4 x.next.length c4]) wr HX.out hEj.out W3.out ⟨_, _, _, _, _, _, rfl, R0.out _ hbj, R1.out _ hbj, R4.out _ hbj⟩ (by simp only [List.length_append] at *; omega) m3)
                have HFIN := Lib.hid (show ∀ l : List UInt8, l ++ (Lib.itoa (n : Int) ++ [58, 10]) ++ catT phiT x.phis ++ catT insTx x.ins ++ jumpT x = l ++ blockT n x from fun l => by unfold blockT; simp only [List.append_assoc])
                clear HWj HTK hpj W3 V
                go_wp2_with fail
                (with_reducible refine Calls.mono WJ.out ?_)
                rintro ee wz hret
                obtain ⟨rfl, hwn, hbn, han⟩ := hret
                have W4 := Lib.hid hwn
                have HA4 := Lib.hid (HAj.out.trans han)
                have hbj4 := hb.trans (hbj.trans hbn)
                clear hwn han hbn y0 y1 y2 y3 y4
                go_wp2_with fail
                go_roundw
                case rel => exact ⟨n + 1, by omega, by go_num, by have h := W4.out; rw [HFIN.out] at h; rw [HN.out, ← List.append_assoc]; exact h, hbj4, HA4.out⟩
                case measure => simp only [intOf]; omega
      · obtain rfl : n = c.blocks.length := by omega
        have HFIN := Lib.hid (show bs ++ headT c ++ blkTo c.blocks c.blocks.length = bs ++ codeT c from by unfold codeT; rw [List.append_assoc])
        go_wp2_with fail
        go_end0
        exact ⟨rfl, by rw [← HFIN.out]; exact HWn.out, hb, HA.out⟩
end Go.Proofs.YtomhomnibikceaaDoor
