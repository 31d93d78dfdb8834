/-
  When the program takes a unit for one; how many instructions it counts.
-/
import Derived.Test.YtomhomnibikceaaDoorNP
namespace Go.Proofs.YtomhomnibikceaaDoor
open Go.RowKit
set_option maxRecDepth 100000

theorem CdS.take {w : World} {Q : Nat → Prop} {cs : List Cd} {A : Option Addr} (h : CdS w Q cs A) (k : Nat) : CdS w Q (cs.take k) A := by
  rcases h with rfl | ⟨b, o, e, hb, hr⟩
  · exact .inl (by simp)
  · refine .inr ⟨b, o, e, hb, fun i hi => ?_⟩
    have hi' : i < cs.length := by rw [List.length_take] at hi; omega
    have : (cs.take k)[i] = cs[i] := List.getElem_take
    rw [this]
    exact hr i hi'
theorem want_take (cs : List Cd) (k : Nat) (x : Ik) (h : x.op = 14 → 0 ≤ x.n ∧ x.n < k) : wantI (cs.take k) x = wantI cs x := by
  unfold wantI
  by_cases h14 : x.op = 14
  · rw [if_pos h14, if_pos h14]
    have := h h14
    rw [List.getElem?_take, if_pos (by omega)]
  · rw [if_neg h14, if_neg h14]
theorem insB_take (cs : List Cd) (k : Nat) (hk : k ≤ cs.length) (c : Cd) (x : Ik) : insB (cs.take k) (cs.take k).length c x = insB cs k c x := by
  have hl : (cs.take k).length = k := by rw [List.length_take]; omega
  rw [hl]
  unfold insB
  by_cases h : 0 ≤ x.n ∧ x.n ≤ mostI k x.op
  · rw [want_take cs k x (fun h14 => by unfold mostI at h; rw [if_neg (by omega), if_pos h14] at h; omega)]
  · rw [decide_eq_false h]; simp
theorem codeB_take (cs : List Cd) (k : Nat) (hk : k ≤ cs.length) (c : Cd) : codeB (cs.take k) (cs.take k).length c = codeB cs k c := by
  have h : ∀ b, blockB (cs.take k) (cs.take k).length c b = blockB cs k c b := fun b => by
    funext x
    unfold blockB
    rw [show insB (cs.take k) (cs.take k).length c = insB cs k c from funext fun y => insB_take cs k hk c y]
  unfold codeB
  congr 1
  funext b
  rw [h b]
theorem bulk_code {u : Un} {k : Nat} (h : k < u.codes.length) (hn : bulkUn u ≤ 1048576) : bulkCd u.codes[k] ≤ 1048576 := by
  have := bulkR_mem (f := bulkCd) (List.getElem_mem h)
  unfold bulkUn at hn; omega
set_option maxHeartbeats 4000000 in
theorem implUnitValid_any (u : Un) (hn : bulkUn u ≤ 1048576) (v : Value) (w : World) (hV : UnV w (Lt w.heap.size) u v) (hv : ∃ A, v = .agg #[.slice A u.codes.length u.codes.length]) (T : InsT w) (J : JmpT w) :
    Calls Tryd.prog 24 #[v] w (BoolB (unB u) w) := by
  have CC := fun W (h : Below w.heap.size w W) => Lib.hid (countIns_any u hn v W (hV.on h h.size))
  obtain ⟨A', cap', e', hR⟩ := hV
  obtain ⟨A, rfl⟩ := hv
  obtain ⟨rfl, rfl⟩ : A = A' ∧ u.codes.length = cap' := by
    injection e' with e'
    simp at e'
    exact e'
  clear e'
  have hln : u.codes.length ≤ 1048576 := by have := length_le_bulkR bulkCd u.codes; unfold bulkUn at hn; omega
  have hcb : cntCL u.codes ≤ 1048576 := by have := cntCL_bulk u.codes; unfold bulkUn at hn; omega
  have HV := Lib.hid (unB_iff u)
  generalize unB u = res at *
  have hb : Below w.heap.size w (w.alloc (.cells #[.slice A u.codes.length u.codes.length] 30)) := (Below.refl _ _).alloc (Nat.le_refl _) _
  have hl0 : w.heap.size < (w.alloc (.cells #[.slice A u.codes.length u.codes.length] 30)).heap.size := by rw [World.size_alloc]; omega
  have K0 := Lib.hid (BoxV.new w [.slice A u.codes.length u.codes.length] 30)
  have hbs := hb.size
  have CS := Lib.hid (allCode_of sizesB u.codes hln A u.codes.length _ (hR.on hb hb.size) (fun i hi v W h hv => sizesFit_any _ v W hv (by
    have := bulk_code hi hn
    have h2 := length_le_bulkR bulkBk u.codes[i].blocks
    unfold bulkCd at this; omega)))
  have HC : Hid (∀ (k : Nat) (hk : k < u.codes.length) (W : World) (_ : Below w.heap.size w W) (Ak : Option Addr) (ck : Nat), BkS W (Lt W.heap.size) u.codes[k].blocks Ak →
      Calls Tryd.prog 48 #[cdv u.codes[k] Ak ck, .slice A k u.codes.length] W (BoolB (codeB u.codes k u.codes[k]) W)) := Lib.hid fun k hk W h Ak ck hbk => by
    have := codeFits_any u.codes[k] Ak ck (u.codes.take k) A u.codes.length W hbk ((hR.on h h.size).take k) (bulk_code hk hn) (by rw [List.length_take]; omega) (T.below h) (J.below h)
    rw [codeB_take u.codes k (by omega), List.length_take, Nat.min_eq_left (by omega)] at this
    exact this
  have HR := Lib.hid hR
  have HZ := Lib.hid (show u.codes.all sizesB = true ↔ ∀ k, (h : k < u.codes.length) → sizesB u.codes[k] = true from all_iff)
  generalize u.codes.all sizesB = zs at *
  generalize cntCL u.codes = cn at *
  clear T J hR hn
  by_cases q1 : u.codes.length = 0
  · have HW := Lib.hid (show res = false by
      cases res
      · rfl
      · have := (HV.out.1 rfl).1; omega)
    have e1 : ((u.codes.length : Int) == 0) = true := beq_yes (by omega)
    clear CC CS HC HR HV HZ K0 q1
    generalize u.codes.length = n at *
    go_enter Tryd.func24, Tryd.ntmps24
    go_wp2_with fail
    go_ret
    exact ⟨ret_bool' HW.out.symm, hb⟩
  have e1 : ((u.codes.length : Int) == 0) = false := beq_no (by omega)
  by_cases q2 : 4 < u.codes.length
  · have HW := Lib.hid (show res = false by
      cases res
      · rfl
      · have := (HV.out.1 rfl).1; omega)
    clear CC CS HC HR HV HZ K0
    generalize u.codes.length = n at *
    go_enter Tryd.func24, Tryd.ntmps24
    go_wp2_with fail
    go_ret
    exact ⟨ret_bool' HW.out.symm, hb⟩
  have k0 := K0.out 0 _ rfl
  cases zs
  · have HW := Lib.hid (show res = false by
      cases res
      · rfl
      · exact absurd (HZ.out.2 (HV.out.1 rfl).2.1) (by simp))
    clear CC HC HR HV HZ
    go_enter Tryd.func24, Tryd.ntmps24
    go_wp2_with fail
    (with_reducible refine Calls.mono CS.out ?_)
    rintro ee w1 ⟨rfl, hb1⟩
    have hb2 := hb.trans (hb1.mono hbs)
    go_wp2_with fail
    go_ret
    exact ⟨ret_bool' HW.out.symm, hb2⟩
  by_cases q3 : 800 < cn
  · have HW := Lib.hid (show res = false by
      cases res
      · rfl
      · have := (HV.out.1 rfl).2.2.1; omega)
    clear HC HR HV HZ
    go_enter Tryd.func24, Tryd.ntmps24
    go_wp2_with fail
    (with_reducible refine Calls.mono CS.out ?_)
    rintro ee w1 ⟨rfl, hb1⟩
    have hb2 := hb.trans (hb1.mono hbs)
    have k1 := K0.out.below hb1 hl0 0 _ rfl
    go_wp2_with fail
    (with_reducible refine Calls.mono (CC _ hb2).out ?_)
    rintro ee w2 ⟨rfl, hb3⟩
    have hb4 := hb2.trans (hb3.mono hb2.size)
    go_wp2_with fail
    go_ret
    exact ⟨ret_bool' HW.out.symm, hb4⟩
  · go_enter Tryd.func24, Tryd.ntmps24
    go_wp2_with fail
    (with_reducible refine Calls.mono CS.out ?_)
    rintro ee w1 ⟨rfl, hb1⟩
    have hb2 := hb.trans (hb1.mono hbs)
    have K1 := Lib.hid (K0.out.below hb1 hl0)
    have hl1 := Nat.lt_of_lt_of_le hl0 hb1.size
    have k1 := K1.out 0 _ rfl
    clear k0 K0 CS
    go_wp2_with fail
    (with_reducible refine Calls.mono (CC _ hb2).out ?_)
    rintro ee w2 ⟨rfl, hb3⟩
    have hb4 := hb2.trans (hb3.mono hb2.size)
    have K2 := Lib.hid (K1.out.below hb3 hl1)
    have hl2 := Nat.lt_of_lt_of_le hl1 hb3.size
    have k2 := K2.out 0 _ rfl
    clear k1 K1 CC hb1 hb3 hb2 hb hl0 hl1
    go_wp2_with fail
    go_loopw [29] (fun i wr => ∃ (k : Nat), k ≤ u.codes.length ∧ i = .int .i64 k ∧ (∀ j, (h : j < u.codes.length) → j < k → codeB u.codes j u.codes[j] = true) ∧ Below w2.heap.size w2 wr) (fun i _ => u.codes.length - (intOf i).toNat)
    case atStart => exact ⟨0, Nat.zero_le _, rfl, fun j _ hj => absurd hj (by omega), Below.refl _ _⟩
    case round =>
      clear k2
      obtain ⟨k, hk, rfl, hall, hb5⟩ := hrel
      have HA := Lib.hid hall
      clear hall
      have hb6 := hb4.trans (hb5.mono hb4.size)
      have hbs6 := hb6.size
      by_cases hlt : k < u.codes.length
      · obtain ⟨b, o, hA, hB, d0, d1, A2, c2, d2, r2⟩ := (HR.out.on hb6 hb6.size).at_ hlt
        have KR := Lib.hid (K2.out.below hb5 hl2)
        have hlr := Nat.lt_of_lt_of_le hl2 hb5.size
        have hal := (Below.refl wr.heap.size wr).alloc (Nat.le_refl _) (.cells #[.int .i64 u.codes[k].params, .int .i64 u.codes[k].regs, .slice A2 u.codes[k].blocks.length c2] 44)
        have hb7 := hb6.trans (hal.mono hbs6)
        have CK := HC.out k hlt ((wr.alloc (.cells #[.int .i64 u.codes[k].params, .int .i64 u.codes[k].regs, .slice A2 u.codes[k].blocks.length c2] 44)).drew) hb7.drew A2 c2 (r2.on hal.drew hal.drew.size)
        have HS := Lib.hid (show codeB u.codes k u.codes[k] = true → ∀ j, (h : j < u.codes.length) → j < k + 1 → codeB u.codes j u.codes[j] = true from fun h1 j hj hjk => by
          by_cases e : j = k
          · subst e; exact h1
          · exact HA.out j hj (by omega))
        have HF := Lib.hid (show codeB u.codes k u.codes[k] = false → res = false from fun h => by
          cases res
          · rfl
          · rw [(HV.out.1 rfl).2.2.2 k hlt] at h; cases h)
        clear HA HC r2
        generalize codeB u.codes k u.codes[k] = z at *
        unfold cdv at CK
        have K7 := Lib.hid (KR.out.below hal hlr)
        have Y7 := Lib.hid (BoxV.new wr [.int .i64 u.codes[k].params, .int .i64 u.codes[k].regs, .slice A2 u.codes[k].blocks.length c2] 44)
        have hl7 := Nat.lt_of_lt_of_le hlr hal.size
        have hy7 : wr.heap.size < (wr.alloc (.cells #[.int .i64 u.codes[k].params, .int .i64 u.codes[k].regs, .slice A2 u.codes[k].blocks.length c2] 44)).heap.size := by rw [World.size_alloc]; omega
        have hbb : Below w2.heap.size w2 (wr.alloc (.cells #[.int .i64 u.codes[k].params, .int .i64 u.codes[k].regs, .slice A2 u.codes[k].blocks.length c2] 44)) := hb5.alloc hb5.size _
        clear hal KR
        generalize u.codes[k] = x at *
        obtain ⟨p, g, bs⟩ := x
        dsimp only at *
        subst hA
        go_wp2_with fail
        have k0 := K7.out 0 _ rfl
        have y0 := Y7.out 0 _ rfl
        have y1 := Y7.out 1 _ rfl
        have y2 := Y7.out 2 _ rfl
        have ee0 : wr.alloc (.cells [.int .i64 p, .int .i64 g, .slice A2 bs.length c2].toArray 44) = wr.alloc (.cells #[.int .i64 p, .int .i64 g, .slice A2 bs.length c2] 44) := rfl
        generalize wr.alloc (.cells #[.int .i64 p, .int .i64 g, .slice A2 bs.length c2] 44) = wb at *
        clear ee0
        cases z
        · have HW := Lib.hid (HF.out rfl)
          replace CK := Lib.hid CK
          clear HF HS
          go_region_held3 (fun u' => u'.cell? ⟨w.heap.size, 0, none⟩ = some (.slice (some ⟨b, o, none⟩) u.codes.length u.codes.length) ∧ u'.cell? ⟨wr.heap.size, 0, none⟩ = some (.int .i64 p) ∧ u'.cell? ⟨wr.heap.size, 1, none⟩ = some (.int .i64 g) ∧ u'.cell? ⟨wr.heap.size, 2, none⟩ = some (.slice A2 bs.length c2)) (go_keep)
            (first | (go_at_call 48; (with_reducible refine Calls.mono CK.out ?_); rintro ee w8 ⟨rfl, hb8⟩; have m0 := (hb8.cell (p := ⟨w.heap.size, 0, none⟩) hl7).trans k0; have m1 := (hb8.cell (p := ⟨wr.heap.size, 0, none⟩) hy7).trans y0; have m2 := (hb8.cell (p := ⟨wr.heap.size, 1, none⟩) hy7).trans y1; have m3 := (hb8.cell (p := ⟨wr.heap.size, 2, none⟩) hy7).trans y2))
          all_goals
            have hb9 := hb7.drew.trans (hb8.mono hb7.size)
            go_wp2_with fail
            go_ret
            exact ⟨ret_bool' HW.out.symm, hb9⟩
        · have HW := Lib.hid (HS.out rfl)
          replace CK := Lib.hid CK
          clear HF HS
          go_region_held3 (fun u' => u'.cell? ⟨w.heap.size, 0, none⟩ = some (.slice (some ⟨b, o, none⟩) u.codes.length u.codes.length) ∧ u'.cell? ⟨wr.heap.size, 0, none⟩ = some (.int .i64 p) ∧ u'.cell? ⟨wr.heap.size, 1, none⟩ = some (.int .i64 g) ∧ u'.cell? ⟨wr.heap.size, 2, none⟩ = some (.slice A2 bs.length c2)) (go_keep)
            (first | (go_at_call 48; (with_reducible refine Calls.mono CK.out ?_); rintro ee w8 ⟨rfl, hb8⟩; have m0 := (hb8.cell (p := ⟨w.heap.size, 0, none⟩) hl7).trans k0; have m1 := (hb8.cell (p := ⟨wr.heap.size, 0, none⟩) hy7).trans y0; have m2 := (hb8.cell (p := ⟨wr.heap.size, 1, none⟩) hy7).trans y1; have m3 := (hb8.cell (p := ⟨wr.heap.size, 2, none⟩) hy7).trans y2))
          all_goals
            have hb9 := hbb.drew.trans (hb8.mono hbb.size)
            go_wp2_with fail
            go_roundw
            case rel => exact ⟨k + 1, by omega, by go_num, HW.out, hb9⟩
            case measure => simp only [intOf]; omega
      · obtain rfl : k = u.codes.length := by omega
        have HW := Lib.hid (show res = true from HV.out.2 ⟨by omega, HZ.out.1 (by trivial), by omega, fun k hk => HA.out k hk hk⟩)
        go_wp2_with fail
        go_ret
        exact ⟨ret_bool' HW.out.symm, hb6⟩
def insCountI (u : Un) : Int := if unB u then (cntCL u.codes : Int) else -1
end Go.Proofs.YtomhomnibikceaaDoor
