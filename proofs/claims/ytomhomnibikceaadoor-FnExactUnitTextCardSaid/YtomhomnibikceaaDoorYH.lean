/-
  UnitText of the model.
-/
import Derived.Test.YtomhomnibikceaaDoorYG
namespace Go.Proofs.YtomhomnibikceaaDoor
open Go.RowKit
set_option maxRecDepth 100000

theorem lens_c {c : Cd} (hp : OkCd c) (hn : bulkCd c ≤ 1048576) : (∀ n ≤ c.blocks.length, (blkTo c.blocks n).length ≤ 104857600) ∧
    (∀ k, (h : k < c.blocks.length) → (catT phiT c.blocks[k].phis).length ≤ 104857600 ∧ (catT insTx c.blocks[k].ins).length ≤ 104857600 ∧ bulkBk c.blocks[k] ≤ 1048576) := by
  unfold bulkCd at hn
  refine ⟨fun n h => ?_, fun k h => ?_⟩
  · have h1 := blkTo_le hp.blocks hp.len n h
    have h2 := bulkR_rest bulkBk c.blocks n
    omega
  · have h0 := bulkR_mem (f := bulkBk) (List.getElem_mem h)
    have h1 := phisT_le (hp.blocks _ (List.getElem_mem h))
    have h2 := inssT_le (hp.blocks _ (List.getElem_mem h))
    have h3 : bulkBk c.blocks[k] = bulkR bulkPh c.blocks[k].phis + bulkR bulkIk c.blocks[k].ins + c.blocks[k].next.length := rfl
    omega
theorem lens_b {x : Bk} (h : bulkBk x ≤ 1048576) : (∀ j, (h : j < x.phis.length) → x.phis[j].args.length ≤ 1048576) ∧ (∀ j, (h : j < x.ins.length) → x.ins[j].args.length ≤ 1048576) ∧ x.next.length ≤ 1048576 ∧ x.phis.length ≤ 1048576 ∧ x.ins.length ≤ 1048576 := by
  have h3 : bulkBk x = bulkR bulkPh x.phis + bulkR bulkIk x.ins + x.next.length := rfl
  refine ⟨fun j hj => ?_, fun j hj => ?_, by omega, ?_, ?_⟩
  · have h0 := bulkR_mem (f := bulkPh) (List.getElem_mem hj)
    unfold bulkPh at h0 h3; omega
  · have h0 := bulkR_mem (f := bulkIk) (List.getElem_mem hj)
    unfold bulkIk at h0 h3; omega
  · have := length_le_bulkR bulkPh x.phis; omega
  · have := length_le_bulkR bulkIk x.ins; omega
theorem head_tx (l : List UInt8) (p r : Int) : ((((tx l ++ ⟨#[99, 111, 100, 101, 32]⟩) ++ tx (Lib.itoa p)) ++ ⟨#[32]⟩) ++ tx (Lib.itoa r)) ++ ⟨#[10]⟩ = tx (l ++ ([99, 111, 100, 101, 32] ++ (Lib.itoa p ++ (32 :: (Lib.itoa r ++ [10]))))) := by
  rw [show (⟨#[99, 111, 100, 101, 32]⟩ : ByteArray) = tx [99, 111, 100, 101, 32] from rfl, show (⟨#[32]⟩ : ByteArray) = tx [32] from rfl, show (⟨#[10]⟩ : ByteArray) = tx [10] from rfl, tx_app, tx_app, tx_app, tx_app, tx_app]
  congr 1
  simp
theorem phi_tx (l : List UInt8) (p : Ph) : ((((tx l ++ ⟨#[114]⟩) ++ tx (Lib.itoa p.to)) ++ ⟨#[32, 61, 32, 112, 104, 105]⟩) ++ tx (catT regT p.args)) ++ ⟨#[10]⟩ = tx (l ++ phiT p) := by
  rw [show (⟨#[114]⟩ : ByteArray) = tx [114] from rfl, show (⟨#[32, 61, 32, 112, 104, 105]⟩ : ByteArray) = tx [32, 61, 32, 112, 104, 105] from rfl, show (⟨#[10]⟩ : ByteArray) = tx [10] from rfl, tx_app, tx_app, tx_app, tx_app, tx_app]
  congr 1
  unfold phiT
  simp
set_option maxHeartbeats 16000000 in
theorem specUnitText_any (u : Un) (hn : bulkUn u ≤ 1048576) (v : Value) (w : World) (hV : UnV w (Lt w.heap.size) u v) :
    Calls Tryd.prog 15 #[v] w (TxRet (unitTx u) w) := by
  have CV := fun W (h : Below w.heap.size w W) => specUnitValid_any u hn v W (hV.on h h.size)
  obtain ⟨A, cap, rfl, hR⟩ := hV
  have HVA := Lib.hid (fun h => okCd_all (u := u) h)
  have HLE := Lib.hid (fun h => unT_le (u := u) h)
  have HU := Lib.hid (show unitTx u = if unB u = true then unT u else [] from rfl)
  have hln : u.codes.length ≤ 1048576 := by have := length_le_bulkR bulkCd u.codes; unfold bulkUn at hn; omega
  have K0 := Lib.hid (Bw.new w 30 #[.slice A u.codes.length cap])
  have hb0 := (Below.refl w.heap.size w).alloc (Nat.le_refl _) (.cells #[.slice A u.codes.length cap] 30)
  have HR := Lib.hid hR
  have HN := Lib.hid hn
  clear hR hn
  unfold BoolB at CV
  have hz : ∃ z, unB u = z := ⟨_, rfl⟩
  obtain ⟨z, hz⟩ := hz
  rw [hz] at CV
  replace CV := fun W h => Lib.hid (CV W h)
  cases z
  · have HW := Lib.hid (show unitTx u = [] by rw [HU.out, hz]; rfl)
    clear hz HR HVA HLE HU HN
    go_enter Tryd.func15, Tryd.ntmps15
    go_wp2_with fail
    generalize w.alloc (.cells #[.slice A u.codes.length cap] 30) = w0 at *
    go_loopw [3, 4] (fun t i wr => i = .int .i64 0 ∧ t = .string ⟨#[]⟩ ∧ Below w.heap.size w wr ∧ Bw wr w.heap.size 30 #[.slice A u.codes.length cap]) (fun _ _ _ => 0)
    case atStart => exact ⟨rfl, rfl, hb0, K0.out⟩
    case round =>
      obtain ⟨rfl, rfl, hb, hk⟩ := hrel
      have K := Lib.hid hk
      have k0 := show wr.cell? ⟨w.heap.size, 0, none⟩ = some (.slice A u.codes.length cap) from (hk.cell 0).trans rfl
      clear hk
      by_cases h0 : 0 < u.codes.length
      · have CV1 := Lib.hid (CV wr hb).out
        go_wp2_with fail
        (with_reducible refine Calls.mono CV1.out ?_)
        rintro ee w1 ⟨rfl, hb1⟩
        have hb2 := hb.trans (hb1.mono hb.size)
        go_wp2_with fail
        go_ret
        exact ⟨by rw [HW.out]; rfl, hb2⟩
      · go_wp2_with fail
        go_ret
        exact ⟨by rw [HW.out]; rfl, hb⟩
  have HW := Lib.hid (show unitTx u = unT u by rw [HU.out, hz]; rfl)
  have HOK := Lib.hid (HVA.out hz)
  have hle := HLE.out hz
  have hnn := HN.out
  have HLN := Lib.hid (show ∀ n, (catT codeT (u.codes.take n)).length ≤ 104857600 from fun n => by
    have h1 := catT_pre codeT u.codes n
    have h2 : (catT codeT u.codes).length = (unT u).length := rfl
    omega)
  clear hz HVA HLE HU hle
  go_enter Tryd.func15, Tryd.ntmps15
  go_wp2_with fail
  generalize w.alloc (.cells #[.slice A u.codes.length cap] 30) = w0 at *
  go_loopw [3, 4] (fun t i wr => ∃ k : Nat, k ≤ u.codes.length ∧ i = .int .i64 k ∧ t = .string (tx (catT codeT (u.codes.take k))) ∧ Below w.heap.size w wr ∧ Bw wr w.heap.size 30 #[.slice A u.codes.length cap]) (fun _ i _ => u.codes.length - (intOf i).toNat)
  case atStart => exact ⟨0, Nat.zero_le _, rfl, rfl, hb0, K0.out⟩
  case round =>
    clear K0 hb0
    obtain ⟨k, hk, rfl, rfl, hb, hku⟩ := hrel
    generalize wr = wo at *
    have KU := Lib.hid hku
    have k0 := show wo.cell? ⟨w.heap.size, 0, none⟩ = some (.slice A u.codes.length cap) from (hku.cell 0).trans rfl
    clear hku
    by_cases hlt : k < u.codes.length
    · have CV1 := Lib.hid (CV wo hb).out
      have hlk := HLN.out k
      have HNK := Lib.hid (catT_take codeT hlt)
      have zk := tx_size (catT codeT (u.codes.take k))
      obtain ⟨T0, eT0⟩ : ∃ l, l = catT codeT (u.codes.take k) := ⟨_, rfl⟩
      rw [← eT0] at hlk zk ⊢
      rw [← eT0] at HNK
      obtain ⟨t0, et0⟩ : ∃ t, t = tx T0 := ⟨_, rfl⟩
      rw [← et0] at zk ⊢
      have ET0 := Lib.hid et0
      have st0 : t0.size ≤ 104857600 := by omega
      clear eT0 et0 zk
      go_wp2_with fail
      (with_reducible refine Calls.mono CV1.out ?_)
      rintro ee w1 ⟨rfl, hb1⟩
      have hb_1 := hb.trans (hb1.mono hb.size)
      have KU1 := Lib.hid (KU.out.below hb1)
      have hb_1' := hb_1
      have k1 := show w1.cell? ⟨w.heap.size, 0, none⟩ = some (.slice A u.codes.length cap) from (KU1.out.cell 0).trans rfl
      clear hb1 CV1 k0 KU hb
      obtain ⟨bb, oo, hAe, hB, d0, d1, AC, cC, d2, rC⟩ := (HR.out.on hb_1 hb_1.size).at_ hlt
      rw [hAe] at k1
      clear hAe
      have HC := Lib.hid (HOK.out k hlt)
      have hbc := bulk_code hlt hnn
      generalize u.codes[k] = c at *
      obtain ⟨l1, l2⟩ := lens_c HC.out hbc
      have HL1 := Lib.hid l1
      have HL2 := Lib.hid l2
      have hl160 := HC.out.len
      have hal := (Below.refl w1.heap.size w1).alloc (Nat.le_refl _) (.cells #[.int .i64 c.params, .int .i64 c.regs, .slice AC c.blocks.length cC] 44)
      have CB := Lib.hid (Bw.new w1 44 #[.int .i64 c.params, .int .i64 c.regs, .slice AC c.blocks.length cC])
      have RC := Lib.hid (fun W (h : Below w1.heap.size w1 W) => rC.on h h.size)
      have KU2 := Lib.hid (KU1.out.below hal)
      have e0 := show (w1.alloc (.cells #[.int .i64 c.params, .int .i64 c.regs, .slice AC c.blocks.length cC] 44)).cell? ⟨w1.heap.size, 0, none⟩ = some (.int .i64 c.params) from (CB.out.cell 0).trans rfl
      have e1 := show (w1.alloc (.cells #[.int .i64 c.params, .int .i64 c.regs, .slice AC c.blocks.length cC] 44)).cell? ⟨w1.heap.size, 1, none⟩ = some (.int .i64 c.regs) from (CB.out.cell 1).trans rfl
      have LP := fun W => dec_sm c.params HC.out.params W
      have LR := fun W => dec_sm c.regs HC.out.regs W
      have z1 := tx_size (Lib.itoa c.params)
      have z2 := tx_size (Lib.itoa c.regs)
      have y1 := itoaS HC.out.params
      have y2 := itoaS HC.out.regs
      have HT := Lib.hid (head_tx T0 c.params c.regs)
      have HHD := Lib.hid (show T0 ++ ([99, 111, 100, 101, 32] ++ (Lib.itoa c.params ++ (32 :: (Lib.itoa c.regs ++ [10])))) = T0 ++ headT c from rfl)
      have hhd := headT_le HC.out
      unfold TxRet at LP LR
      generalize tx (Lib.itoa c.params) = t1 at *
      generalize tx (Lib.itoa c.regs) = t2 at *
      replace LP := fun W => Lib.hid (LP W)
      replace LR := fun W => Lib.hid (LR W)
      have HT2 := Lib.hid (show ((((t0 ++ ⟨#[99, 111, 100, 101, 32]⟩) ++ t1) ++ ⟨#[32]⟩) ++ t2) ++ ⟨#[10]⟩ = tx (T0 ++ headT c) from by rw [ET0.out, HT.out, HHD.out])
      have q1 : ¬ (9223372036854775807 < t0.size + 5) := by omega
      have q2 : ¬ (9223372036854775807 < t0.size + 5 + t1.size) := by omega
      have q3 : ¬ (9223372036854775807 < t0.size + 5 + t1.size + 1) := by omega
      have q4 : ¬ (9223372036854775807 < t0.size + 5 + t1.size + 1 + t2.size) := by omega
      have q5 : ¬ (9223372036854775807 < t0.size + 5 + t1.size + 1 + t2.size + 1) := by omega
      clear z1 z2 y1 y2 HT HHD l1 l2 rC KU1
      go_wp2_with fail
      generalize hw2 : w1.alloc (.cells #[.int .i64 c.params, .int .i64 c.regs, .slice AC c.blocks.length cC] 44) = w2 at *
      clear hw2
      have CBd := Lib.hid (show Bw w2.drew w1.heap.size _ _ from CB.out)
      go_region_held3 (fun v => v.cell? ⟨w1.heap.size, 0, none⟩ = some (.int .i64 c.params) ∧ v.cell? ⟨w1.heap.size, 1, none⟩ = some (.int .i64 c.regs)) (go_keep)
        (first
          | (go_at_call 31; (with_reducible refine Calls.mono (LP _).out ?_); rintro ee w3 ⟨rfl, hb3⟩; have C3 := Lib.hid (CBd.out.below hb3); have f0 := show w3.cell? ⟨w1.heap.size, 0, none⟩ = some (.int .i64 c.params) from (C3.out.cell 0).trans rfl; have f1 := show w3.cell? ⟨w1.heap.size, 1, none⟩ = some (.int .i64 c.regs) from (C3.out.cell 1).trans rfl)
          | (go_at_call 31; (with_reducible refine Calls.mono (LR _).out ?_); rintro ee w4 ⟨rfl, hb4⟩; have C4 := Lib.hid (C3.out.below hb4); have g0 := show w4.cell? ⟨w1.heap.size, 0, none⟩ = some (.int .i64 c.params) from (C4.out.cell 0).trans rfl; have g1 := show w4.cell? ⟨w1.heap.size, 1, none⟩ = some (.int .i64 c.regs) from (C4.out.cell 1).trans rfl; have hb34 := hb3.trans (hb4.mono hb3.size)))
      all_goals
        have hbd := (Below.refl w2.heap.size w2).drew
        have hb24 := hal.trans ((hbd.trans (hb34.mono (Nat.le_refl _))).mono hal.size)
        have KU4 := Lib.hid ((KU2.out.below hbd).below hb34)
        have hb_4 := hb_1.trans (hb24.mono hb_1.size)
        clear LP LR CB CBd C3 e0 e1 f0 f1 g0 g1 hb3 hb4 hb34 hal q1 q2 q3 q4 q5 KU2 hbd k1 d0 d1 d2
        have HT3 := HT2.out
        clear HT2
        go_wp2_with fail
        rw [HT3]
        clear HT3 ET0 st0
        go_loopw [3, 6] (fun t i wr => ∃ n : Nat, n ≤ c.blocks.length ∧ i = .int .i64 n ∧ t = .string (tx (T0 ++ headT c ++ blkTo c.blocks n)) ∧ Below w1.heap.size w1 wr ∧ Bw wr w1.heap.size 44 #[.int .i64 c.params, .int .i64 c.regs, .slice AC c.blocks.length cC] ∧ Bw wr w.heap.size 30 #[.slice A u.codes.length cap]) (fun _ i _ => c.blocks.length - (intOf i).toNat)
        case atStart => exact ⟨0, Nat.zero_le _, rfl, by show _ = Value.string (tx (T0 ++ headT c ++ [])); rw [List.append_nil], hb24, C4.out, KU4.out⟩
        case round =>
          clear C4 KU4 hb24 hb_4
          obtain ⟨n, hnl, rfl, rfl, hb2, hc, hku⟩ := hrel
          generalize wr = wp at *
          have CB := Lib.hid hc
          have KU := Lib.hid hku
          have c2 := show wp.cell? ⟨w1.heap.size, 2, none⟩ = some (.slice AC c.blocks.length cC) from (hc.cell 2).trans rfl
          clear hc hku
          by_cases hln : n < c.blocks.length
          · obtain ⟨b2, o2, hAC, hB2, ⟨A0, c0, d0, r0⟩, ⟨A1, c1, d1, r1⟩, d2, d3, A4, c4, d4, r4⟩ := (RC.out wp hb2).at_ hln
            rw [hAC] at c2
            have HAC := Lib.hid hAC
            clear hAC
            have HX := Lib.hid (HC.out.blocks _ (List.getElem_mem hln))
            obtain ⟨lp, li, lb⟩ := HL2.out n hln
            obtain ⟨m1, m2, m3, m4, m5⟩ := lens_b lb
            have HM1 := Lib.hid m1
            have HM2 := Lib.hid m2
            have HNN := Lib.hid (blkTo_succ hln)
            have hpre := HL1.out n hnl
            generalize c.blocks[n] = x at *
            have R0 := Lib.hid (fun W (h : Below wp.heap.size wp W) => r0.on h h.size)
            have R1 := Lib.hid (fun W (h : Below wp.heap.size wp W) => r1.on h h.size)
            have R4 := Lib.hid (fun W (h : Below wp.heap.size wp W) => r4.on h h.size)
            have hB2' : b2 < wp.heap.size := hB2
            have D0 := Lib.hid d0
            have D1 := Lib.hid d1
            have D2 := Lib.hid d2
            have D3 := Lib.hid d3
            have D4 := Lib.hid d4
            clear d1 d2 d3 d4
            have hsn : SmN (n : Int) := by unfold SmN; omega
            have LD := dec_sm (n : Int) hsn wp
            have zp := tx_size (T0 ++ headT c ++ blkTo c.blocks n)
            have zn := tx_size (Lib.itoa (n : Int))
            have yn := itoaS hsn
            have hP0l : (T0 ++ headT c ++ blkTo c.blocks n).length ≤ 210000000 := by simp only [List.length_append]; omega
            obtain ⟨P0, eP0⟩ : ∃ l, l = T0 ++ headT c ++ blkTo c.blocks n := ⟨_, rfl⟩
            have EP0 := Lib.hid eP0
            rw [← eP0] at hP0l zp ⊢
            have HT := Lib.hid (show (tx P0 ++ tx (Lib.itoa (n : Int))) ++ ⟨#[58, 10]⟩ = tx (P0 ++ (Lib.itoa (n : Int) ++ [58, 10])) from by
              rw [show (⟨#[58, 10]⟩ : ByteArray) = tx [58, 10] from rfl, tx_app, tx_app]
              congr 1
              rw [List.append_assoc])
            unfold TxRet at LD
            generalize tx P0 = t0 at *
            generalize tx (Lib.itoa (n : Int)) = tn at *
            have st0 : t0.size ≤ 210000000 := by omega
            have stn : tn.size ≤ 20 := by omega
            replace LD := Lib.hid LD
            clear eP0 zp zn r0 r1 r4 m1 m2 lb hpre
            go_wp2_with fail
            (with_reducible refine Calls.mono LD.out ?_)
            rintro ee w5 ⟨rfl, hb5⟩
            have CB5 := Lib.hid (CB.out.below hb5)
            have f2 := show w5.cell? ⟨w1.heap.size, 2, none⟩ = some (.slice AC c.blocks.length cC) from (CB5.out.cell 2).trans rfl
            rw [HAC.out] at f2
            have g0 := (hb5.cell (p := ⟨b2, o2 + n * 5, none⟩) hB2').trans d0
            clear LD c2 d0
            go_wp2_with fail
            rw [HT.out]
            obtain ⟨P1, eP1⟩ : ∃ l, l = P0 ++ (Lib.itoa (n : Int) ++ [58, 10]) := ⟨_, rfl⟩
            have hP1l : P1.length ≤ 210000022 := by rw [eP1]; simp only [List.length_append, List.length_cons, List.length_nil]; omega
            have EP1 := Lib.hid eP1
            rw [← eP1]
            clear eP1 HT st0 stn hP0l
            go_loopw [3, 7] (fun t i wr => ∃ j : Nat, j ≤ x.phis.length ∧ i = .int .i64 j ∧ t = .string (tx (P1 ++ catT phiT (x.phis.take j))) ∧ Below wp.heap.size wp wr) (fun _ i _ => x.phis.length - (intOf i).toNat)
            case atStart => exact ⟨0, Nat.zero_le _, rfl, by rw [List.take_zero]; show _ = Value.string (tx (P1 ++ [])); rw [List.append_nil], hb5⟩
            case round =>
              clear f2 g0 hb5 CB5
              obtain ⟨j, hjl, rfl, rfl, hbr⟩ := hrel
              have CBr := Lib.hid (CB.out.below hbr)
              have f2 := show wr.cell? ⟨w1.heap.size, 2, none⟩ = some (.slice AC c.blocks.length cC) from (CBr.out.cell 2).trans rfl
              rw [HAC.out] at f2
              have g0 := (hbr.cell (p := ⟨b2, o2 + n * 5, none⟩) hB2').trans ((show wp.cell? ⟨b2, o2 + n * 5, none⟩ = some (.slice A0 x.phis.length c0) from D0.out))
              have hpj := catT_pre phiT x.phis j
              by_cases hlj : j < x.phis.length
              · obtain ⟨b3, o3, hA0, hB3, p0, AP, cP, p1, rP⟩ := (R0.out wr hbr).at_ hlj
                rw [hA0] at g0
                clear hA0
                have HQ := Lib.hid (HX.out.phis _ (List.getElem_mem hlj))
                have HNj := Lib.hid (catT_take phiT hlj)
                have hm := HM1.out j hlj
                generalize x.phis[j] = p at *
                have hal := (Below.refl wr.heap.size wr).alloc (Nat.le_refl _) (.cells #[.int .i64 p.to, .slice AP p.args.length cP] 58)
                have PB := Lib.hid (Bw.new wr 58 #[.int .i64 p.to, .slice AP p.args.length cP])
                have hbra := hbr.trans (hal.mono hbr.size)
                have e0 := show (wr.alloc (.cells #[.int .i64 p.to, .slice AP p.args.length cP] 58)).cell? ⟨wr.heap.size, 0, none⟩ = some (.int .i64 p.to) from (PB.out.cell 0).trans rfl
                have e1 := show (wr.alloc (.cells #[.int .i64 p.to, .slice AP p.args.length cP] 58)).cell? ⟨wr.heap.size, 1, none⟩ = some (.slice AP p.args.length cP) from (PB.out.cell 1).trans rfl
                have LO := fun W => dec_sm p.to HQ.out.to W
                have LA := fun W (h : Below wr.heap.size wr W) => l7List_any p.args HQ.out.args AP cP W (rP.on h h.size) hm
                have z1 := tx_size (Lib.itoa p.to)
                have z2 := tx_size (catT regT p.args)
                have z3 := tx_size (P1 ++ catT phiT (x.phis.take j))
                rw [List.length_append] at z3
                have y1 := itoaS HQ.out.to
                have y2 := regsT_le HQ.out.args
                have HT := Lib.hid (phi_tx (P1 ++ catT phiT (x.phis.take j)) p)
                unfold TxRet at LO LA
                generalize tx (P1 ++ catT phiT (x.phis.take j)) = tj at *
                generalize tx (Lib.itoa p.to) = t1 at *
                generalize tx (catT regT p.args) = t2 at *
                replace LO := fun W => Lib.hid (LO W)
                replace LA := fun W h => Lib.hid (LA W h)
                have q1 : ¬ (9223372036854775807 < tj.size + 1) := by omega
                have q2 : ¬ (9223372036854775807 < tj.size + 1 + t1.size) := by omega
                have q3 : ¬ (9223372036854775807 < tj.size + 1 + t1.size + 6) := by omega
                have q4 : ¬ (9223372036854775807 < tj.size + 1 + t1.size + 6 + t2.size) := by omega
                have q5 : ¬ (9223372036854775807 < tj.size + 1 + t1.size + 6 + t2.size + 1) := by omega
                clear z1 z2 z3 y1 y2 hpj rP
                go_wp2_with fail
                generalize hw6 : wr.alloc (.cells #[.int .i64 p.to, .slice AP p.args.length cP] 58) = w6 at *
                clear hw6
                have PBd := Lib.hid (show Bw w6.drew wr.heap.size _ _ from PB.out)
                have hald := hal.drew
                go_region_held3 (fun v => v.cell? ⟨wr.heap.size, 0, none⟩ = some (.int .i64 p.to) ∧ v.cell? ⟨wr.heap.size, 1, none⟩ = some (.slice AP p.args.length cP)) (go_keep)
                  (first
                    | (go_at_call 31; (with_reducible refine Calls.mono (LO _).out ?_); rintro ee w7 ⟨rfl, hb7⟩; have P7 := Lib.hid (PBd.out.below hb7); have f0 := show w7.cell? ⟨wr.heap.size, 0, none⟩ = some (.int .i64 p.to) from (P7.out.cell 0).trans rfl; have f1 := show w7.cell? ⟨wr.heap.size, 1, none⟩ = some (.slice AP p.args.length cP) from (P7.out.cell 1).trans rfl; have hb67 := hald.trans (hb7.mono hald.size))
                    | (go_at_call 32; (with_reducible refine Calls.mono (LA _ hb67).out ?_); rintro ee w8 ⟨rfl, hb8⟩; have P8 := Lib.hid (P7.out.below hb8); have g0' := show w8.cell? ⟨wr.heap.size, 0, none⟩ = some (.int .i64 p.to) from (P8.out.cell 0).trans rfl; have g1' := show w8.cell? ⟨wr.heap.size, 1, none⟩ = some (.slice AP p.args.length cP) from (P8.out.cell 1).trans rfl; have hb68 := hb67.trans (hb8.mono hb67.size)))
                all_goals
                  have hbn := hbr.trans (hb68.mono hbr.size)
                  have HT2 := HT.out
                  clear LO LA PB PBd P7 P8 e0 e1 f0 f1 g0' g1' hb7 hb8 hb67 hb68 hal hald q1 q2 q3 q4 q5 f2 g0 CBr HT
                  go_wp2_with fail
                  rw [HT2]
                  go_roundw
                  case rel => exact ⟨j + 1, by omega, by go_num, by rw [HNj.out, List.append_assoc], hbn⟩
                  case measure => simp only [intOf]; omega
              · obtain rfl : j = x.phis.length := by omega
                have HTK := List.take_length (l := x.phis)
                have hP2l : (P1 ++ catT phiT x.phis).length ≤ 420000022 := by rw [List.length_append]; omega
                obtain ⟨P2, eP2⟩ : ∃ l, l = P1 ++ catT phiT x.phis := ⟨_, rfl⟩
                rw [HTK, ← eP2]
                rw [← eP2] at hP2l
                have EP2 := Lib.hid eP2
                have g1 := (hbr.cell (p := ⟨b2, o2 + n * 5 + 1, none⟩) hB2').trans ((show wp.cell? ⟨b2, o2 + n * 5 + 1, none⟩ = some (.slice A1 x.ins.length c1) from D1.out))
                clear HTK eP2 hpj hP1l
                go_wp2_with fail
                generalize wr = wq at *
                go_loopw [3, 9] (fun t i wr => ∃ j : Nat, j ≤ x.ins.length ∧ i = .int .i64 j ∧ t = .string (tx (P2 ++ catT insTx (x.ins.take j))) ∧ Below wp.heap.size wp wr) (fun _ i _ => x.ins.length - (intOf i).toNat)
                case atStart => exact ⟨0, Nat.zero_le _, rfl, by rw [List.take_zero]; show _ = Value.string (tx (P2 ++ [])); rw [List.append_nil], hbr⟩
                case round =>
                  clear f2 g0 g1 hbr CBr
                  obtain ⟨j, hjl, rfl, rfl, hbr⟩ := hrel
                  have CBr := Lib.hid (CB.out.below hbr)
                  have f2 := show wr.cell? ⟨w1.heap.size, 2, none⟩ = some (.slice AC c.blocks.length cC) from (CBr.out.cell 2).trans rfl
                  rw [HAC.out] at f2
                  have g1 := (hbr.cell (p := ⟨b2, o2 + n * 5 + 1, none⟩) hB2').trans ((show wp.cell? ⟨b2, o2 + n * 5 + 1, none⟩ = some (.slice A1 x.ins.length c1) from D1.out))
                  have hpj := catT_pre insTx x.ins j
                  have z3 := tx_size (P2 ++ catT insTx (x.ins.take j))
                  rw [List.length_append] at z3
                  by_cases hlj : j < x.ins.length
                  · obtain ⟨b3, o3, hA1, hB3, p0, p1, ⟨AP, cP, p2, rP⟩, p3⟩ := (R1.out wr hbr).at_ hlj
                    rw [hA1] at g1
                    clear hA1
                    have HQ := Lib.hid (HX.out.ins _ (List.getElem_mem hlj))
                    have HNj := Lib.hid (catT_take insTx hlj)
                    have hm := HM2.out j hlj
                    have y2 := insTx_le HQ.out
                    have hbk : bulkIk x.ins[j] = x.ins[j].args.length := rfl
                    generalize x.ins[j] = p at *
                    have LI := l7Line_any p HQ.out (.agg #[.int .i64 p.op, .int .i64 p.to, .slice AP p.args.length cP, .int .i64 p.n]) wr ⟨_, _, rfl, rP⟩ hm
                    have z2 := tx_size (insTx p)
                    have HT := Lib.hid (show tx (P2 ++ catT insTx (x.ins.take j)) ++ tx (insTx p) = tx (P2 ++ catT insTx (x.ins.take (j + 1))) from by rw [HNj.out, tx_app, List.append_assoc])
                    unfold TxRet at LI
                    generalize tx (P2 ++ catT insTx (x.ins.take j)) = tj at *
                    generalize tx (insTx p) = t2 at *
                    replace LI := Lib.hid LI
                    have s1 : tj.size ≤ 600000000 := by omega
                    have s2 : t2.size ≤ 110000000 := by omega
                    clear z2 z3 y2 hpj rP hbk
                    go_wp2_with fail
                    (with_reducible refine Calls.mono LI.out ?_)
                    rintro ee w7 ⟨rfl, hb7⟩
                    have hbn := hbr.trans (hb7.mono hbr.size)
                    clear hb7 LI g1 f2 CBr p0 p1 p2 p3
                    go_wp2_with fail
                    rw [HT.out]
                    go_roundw
                    case rel => exact ⟨j + 1, by omega, by go_num, rfl, hbn⟩
                    case measure => simp only [intOf]; omega
                  · obtain rfl : j = x.ins.length := by omega
                    have HTK := List.take_length (l := x.ins)
                    rw [HTK] at z3 ⊢
                    have y2 := jumpT_le HX.out
                    have z2 := tx_size (jumpT x)
                    have j0 := (hbr.cell (p := ⟨b2, o2 + n * 5, none⟩) hB2').trans ((show wp.cell? ⟨b2, o2 + n * 5, none⟩ = some (.slice A0 x.phis.length c0) from D0.out))
                    have j2 := (hbr.cell (p := ⟨b2, o2 + n * 5 + 2, none⟩) hB2').trans ((show wp.cell? ⟨b2, o2 + n * 5 + 2, none⟩ = some (.int .i64 x.jump) from D2.out))
                    have j3 := (hbr.cell (p := ⟨b2, o2 + n * 5 + 3, none⟩) hB2').trans ((show wp.cell? ⟨b2, o2 + n * 5 + 3, none⟩ = some (.int .i64 x.on) from D3.out))
                    have j4 := (hbr.cell (p := ⟨b2, o2 + n * 5 + 4, none⟩) hB2').trans ((show wp.cell? ⟨b2, o2 + n * 5 + 4, none⟩ = some (.slice A4 x.next.length c4) from D4.out))
                    have LJ := l7Jump_any x HX.out (.agg #[.slice A0 x.phis.length c0, .slice A1 x.ins.length c1, .int .i64 x.jump, .int .i64 x.on, .slice A4 x.next.length c4]) wr ⟨_, _, _, _, _, _, rfl, R0.out _ hbr, R1.out _ hbr, R4.out _ hbr⟩
                    have HT := Lib.hid (show tx (P2 ++ catT insTx x.ins) ++ tx (jumpT x) = tx (T0 ++ headT c ++ blkTo c.blocks (n + 1)) from by
                      rw [HNN.out, tx_app, EP2.out, EP1.out, EP0.out]
                      congr 1
                      unfold blockT
                      simp only [List.append_assoc])
                    unfold TxRet at LJ
                    generalize tx (P2 ++ catT insTx x.ins) = tj at *
                    generalize tx (jumpT x) = t2 at *
                    replace LJ := Lib.hid LJ
                    have s1 : tj.size ≤ 600000000 := by omega
                    have s2 : t2.size ≤ 110000000 := by omega
                    clear z2 z3 y2 hpj HTK
                    go_wp2_with fail
                    (with_reducible refine Calls.mono LJ.out ?_)
                    rintro ee w7 ⟨rfl, hb7⟩
                    have hbn := hbr.trans (hb7.mono hbr.size)
                    have CB9 := Lib.hid (CB.out.below hbn)
                    have KU9 := Lib.hid (KU.out.below hbn)
                    have hb9 := hb2.trans (hbn.mono hb2.size)
                    clear hb7 LJ g1 f2 CBr j0 j2 j3 j4
                    go_wp2_with fail
                    rw [HT.out]
                    go_roundw
                    case rel => exact ⟨n + 1, by omega, by go_num, rfl, hb9, CB9.out, KU9.out⟩
                    case measure => simp only [intOf]; omega
          · obtain rfl : n = c.blocks.length := by omega
            have HT := Lib.hid (show T0 ++ headT c ++ blkTo c.blocks c.blocks.length = catT codeT (u.codes.take (k + 1)) from by
              rw [HNK.out]
              unfold codeT
              rw [List.append_assoc])
            have hb9 := hb_1'.trans (hb2.mono hb_1'.size)
            clear CB
            go_wp2_with fail
            go_roundw
            case rel => exact ⟨k + 1, by omega, by go_num, by rw [HT.out], hb9, KU.out⟩
            case measure => simp only [intOf]; omega
    · obtain rfl : k = u.codes.length := by omega
      rw [List.take_length]
      go_wp2_with fail
      go_ret
      exact ⟨by rw [HW.out]; rfl, hb⟩
end Go.Proofs.YtomhomnibikceaaDoor
