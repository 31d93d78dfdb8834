/-
  The model's ReadExpr.
-/
import Derived.Test.YtljdbjfbcjigaaaGreatDoorMg15
import Derived.Test.YtljdbjfbcjigaaaGreatDoorMg6
import Derived.Test.YtljdbjfbcjigaaaGreatDoorMg7
import Derived.Test.YtljdbjfbcjigaaaGreatDoorMs13
import Derived.Test.YtljdbjfbcjigaaaGreatDoorMs14
import Derived.Test.YtljdbjfbcjigaaaGreatDoorMs15
import Derived.Test.YtljdbjfbcjigaaaGreatDoorMs16
namespace Go.Proofs.YtljdbjfbcjigaaaGreatDoor
open Go.RowKit
set_option maxRecDepth 100000

def callR (s : ByteArray) (r : Option (List E × List W)) : Option (E × List W) := r.bind fun p => some (callE s p.1, p.2)
theorem callR_some (s : ByteArray) (r : Option (List E × List W)) : (callR s r).isSome = r.isSome := by cases r <;> rfl
set_option maxHeartbeats 4000000 in
theorem readCall_of (R cap k : Nat) (A : Option Addr) (ws : List W) (s : ByteArray) (w : World) (h : XR w R A cap ws k) (G : Rts R w) (res : Option (List E × List W))
    (HL : ∀ W, XR W R A cap ws k → Rts R W → Calls Tryz.prog 208 #[.pointer (some ⟨R, 0, none⟩), .func (.func 71) #[.pointer (some ⟨R, 0, none⟩)] #[]] W (QRet R cap A ws res W)) :
    Calls Tryz.prog 165 #[.pointer (some ⟨R, 0, none⟩), .string s] w (PRet R cap A ws (callR s res) w) := by
  have hb0 := (Below.refl w.heap.size w).alloc (Nat.le_refl _) (.cells #[.int .i64 0, .int .i64 0, .string ⟨#[]⟩, .slice none 0 0] 28)
  have R0 := Lib.hid (Res.new w (.int .i64 0) (.int .i64 0) (.string ⟨#[]⟩) (.slice none 0 0) 28)
  have hz0 : (w.alloc (.cells #[.int .i64 0, .int .i64 0, .string ⟨#[]⟩, .slice none 0 0] 28)).heap.size = w.heap.size + 1 := World.size_alloc _ _
  have HM0 := Lib.hid (Mv.of_below (R := R) hb0 h.cu.lt)
  have hlt := h.cu.lt
  have L1 := Lib.hid (HL _ (h.below hb0) (G.mv HM0.out))
  clear hb0 h G HL
  go_enter Tryz.func165, Tryz.ntmps165
  go_wp2_with fail
  (with_reducible refine Calls.mono L1.out ?_)
  rintro ee w2 ⟨hm2, ⟨k2, hc2, hk2⟩, ks, A2, c2, rfl, hp2, he⟩
  have hs2 := hm2.1.below.size
  have HP2 := Lib.hid (PdD.wide (lo' := w.heap.size + 1) hp2 (by omega) (Nat.le_refl _))
  have R2 := R0.out.mv hm2 hlt
  obtain ⟨c0, c1, c2', c3⟩ := R2.c
  have f0 := R2.f 0
  have f1 := R2.f 1
  have f2 := R2.f 2
  have f3 := R2.f 3
  have HF := Lib.hid (pret_store (res := callR s res) (e := callE s ks) (c := c2) hlt (HM0.out.trans hm2) hc2 (fun p hp => by
    cases hr : res with
    | none => rw [hr] at hp; cases hp
    | some q => rw [hr] at hp; injection hp with hp; rw [← hp]; exact hk2 q hr) HP2.out (Nat.lt_succ_self _) (fun p hp => by
    cases hr : res with
    | none => rw [hr] at hp; cases hp
    | some q => rw [hr] at hp; injection hp with hp; rw [← hp, he q hr]))
  rw [callR_some] at HF
  clear R0 HM0 L1 hm2 hc2 hk2 hp2 he HP2 R2
  generalize res.isSome = bb at *
  go_wp2_with fail
  refine bodyPost_ret (v := .tuple #[.agg #[.int .i64 13, .int .i64 0, .string s, .slice A2 ks.length c2], .bool bb]) (by simp [results, Tryz.results165, go_sem, c0, c1, c2', c3]) rfl ?_
  exact HF.out
set_option maxHeartbeats 16000000 in
theorem readWhole_of (R cap k m : Nat) (A : Option Addr) (ws : List W) (w : World) (hn : ws.length ≤ 600) (hvs : ∀ x ∈ ws, x.2.size ≤ 4) (h : XR w R A cap ws k) (G : Rts R w)
    (HE : ∀ W, XR W R A cap ws (k + 1) → Rts R W → Calls Tryz.prog 71 #[.pointer (some ⟨R, 0, none⟩)] W (PRet R cap A ws (rdL nmB m 1 (ws.drop (k + 1))) W))
    (HL : ∀ (s : ByteArray) W, k + 2 ≤ ws.length → XR W R A cap ws (k + 2) → Rts R W → Calls Tryz.prog 165 #[.pointer (some ⟨R, 0, none⟩), .string s] W (PRet R cap A ws (callR s (rdC nmB m (ws.drop (k + 2)))) W)) :
    Calls Tryz.prog 116 #[.pointer (some ⟨R, 0, none⟩)] w (PRet R cap A ws (rdW nmB (m + 1) (ws.drop k)) w) := by
  have hb0 := (Below.refl w.heap.size w).alloc (Nat.le_refl _) (.cells #[.int .i64 0, .int .i64 0, .string ⟨#[]⟩, .slice none 0 0] 28)
  have R0 := Lib.hid (Res.new w (.int .i64 0) (.int .i64 0) (.string ⟨#[]⟩) (.slice none 0 0) 28)
  have hz0 : (w.alloc (.cells #[.int .i64 0, .int .i64 0, .string ⟨#[]⟩, .slice none 0 0] 28)).heap.size = w.heap.size + 1 := World.size_alloc _ _
  have HM0 := Lib.hid (Mv.of_below (R := R) hb0 h.cu.lt)
  have hlt := h.cu.lt
  have hrs := h.sz
  have HX0 := Lib.hid (h.below hb0)
  have HG := Lib.hid (show ∀ W, Mv R w W → Rts R W from fun W hm => G.mv hm)
  have TT := fun s k' W (hc : Cu W R A cap ws k') => Lib.hid (takeText_any R cap k' A ws s W hc hn)
  have TL := (TT lpS k _ HX0.out.cu).out
  unfold lpS at TL
  replace TL := Lib.hid TL
  have HEE := Lib.hid HE
  have HLL := Lib.hid HL
  have HV := Lib.hid hvs
  clear hb0 h G HE HL hvs
  go_enter Tryz.func116, Tryz.ntmps116
  go_wp2_with fail
  (with_reducible refine Calls.mono TL.out ?_)
  rintro ee w1 ⟨rfl, hm1, hc1⟩
  have e1 : isT (ws.drop k) ⟨#[40]⟩ = isT (ws.drop k) lpS := rfl
  rw [e1] at hc1 ⊢
  have HM1 := Lib.hid (HM0.out.trans hm1)
  have HX1 := Lib.hid (HX0.out.mv hm1 hc1)
  have HR1 := Lib.hid (R0.out.mv hm1 hlt)
  have hs1 := hm1.1.below.size
  clear TL hm1 hc1 e1 HM0 HX0 R0
  cases hb : isT (ws.drop k) lpS
  · have HC2 := Lib.hid (show Cu w1 R A cap ws k from by have h := HX1.out.cu; rw [hb] at h; exact h)
    have HX2 := Lib.hid (show XR w1 R A cap ws k from by have h := HX1.out; rw [hb] at h; exact h)
    by_cases hkl : k < ws.length
    · have hne : ws[k].2 ≠ lpS := by intro e; rw [isT_drop, dif_pos hkl, decide_eq_true e] at hb; cases hb
      have HRD := Lib.hid (show rdW nmB (m + 1) (ws.drop k) = if ws[k].1 = 2 then some (numE (nmB ws[k].2), ws.drop (k + 1)) else if ws[k].1 = 1 then (if isT (ws.drop (k + 1)) lpS = true then callR ws[k].2 (rdC nmB m (ws.drop (k + 2))) else some (varE ws[k].2, ws.drop (k + 1))) else none by
        rw [List.drop_eq_getElem_cons hkl, rdW_eq, if_neg hne, tail_drop]; rfl)
      have TK := Lib.hid (take_yes R cap k A ws w1 HC2.out hn hkl)
      have hv4 := HV.out _ (List.getElem_mem hkl)
      have TT1 := TT lpS (k + 1)
      clear hb hne HC2 HX1 HEE TT HV
      generalize hz : ws[k].1 = z at *
      generalize ht : ws[k].2 = t at *
      clear hz ht
      generalize rdW nmB (m + 1) (ws.drop k) = res at *
      go_wp2_with fail
      (with_reducible refine Calls.mono TK.out ?_)
      rintro ee w2 ⟨rfl, hm2, hc2⟩
      have hs2 := hm2.1.below.size
      have hlt2 : R < w2.heap.size := by omega
      have hal := (Below.refl w2.heap.size w2).alloc (Nat.le_refl _) (.cells #[.int .i64 z, .string t] 138)
      have j0 : (w2.alloc (.cells #[.int .i64 z, .string t] 138)).cell? ⟨w2.heap.size, 0, none⟩ = some (.int .i64 z) := alloc_cell w2 #[.int .i64 z, .string t] 138 (0, 0) 0
      have j1 : (w2.alloc (.cells #[.int .i64 z, .string t] 138)).cell? ⟨w2.heap.size, 1, none⟩ = some (.string t) := alloc_cell w2 #[.int .i64 z, .string t] 138 (0, 0) 1
      have hlx : w2.heap.size < (w2.alloc (.cells #[.int .i64 z, .string t] 138)).heap.size := by rw [World.size_alloc]; omega
      have R2 := HR1.out.mv hm2 hlt
      have HR3 := Lib.hid (R2.below hal R2.lt)
      have HM3 := Lib.hid ((HM1.out.trans hm2).trans (Mv.of_below hal hlt2))
      have HX3 := Lib.hid ((HX2.out.mv hm2 hc2).below hal)
      clear TK hm2 hc2 hal R2 HX2 HM1 HR1
      go_upto_region 7 with (fail)
      generalize w2.alloc (.cells #[.int .i64 z, .string t] 138) = w3 at *
      have hkl1 : k + 1 ≤ ws.length := hkl
      have bad : ∀ W, Mv R w W → Cu W R A cap ws (k + 1) → res = none → PRet R cap A ws res w (.returned (.tuple #[.agg #[.int .i64 0, .int .i64 0, .string ⟨#[]⟩, .slice none 0 0], .bool false])) ((((W.setCell ⟨w.heap.size, 0, none⟩ (.int .i64 0)).setCell ⟨w.heap.size, 1, none⟩ (.int .i64 0)).setCell ⟨w.heap.size, 2, none⟩ (.string ⟨#[]⟩)).setCell ⟨w.heap.size, 3, none⟩ (.slice none 0 0)) := by
        intro W hm hc hr
        rw [hr]
        exact pret_store (res := none) (e := E.none) (A' := none) (c := 0) (lo := w.heap.size + 1) hlt hm hc (fun p hp => by cases hp) (.inl rfl) (Nat.lt_succ_self _) (fun p hp => by cases hp)
      have BAD := Lib.hid bad
      clear bad
      by_cases hz2 : z = 2
      · subst hz2
        have hres := Lib.hid (show res = some (numE (nmB t), ws.drop (k + 1)) by rw [HRD.out, if_pos rfl])
        have NB := Lib.hid (implNumberOf_any 2 t w3 (by omega) (HG.out w3 HM3.out).nt)
        have e2 : numOfB 2 t = nmB t := by unfold numOfB; rw [if_pos rfl]; rfl
        rw [e2] at NB
        clear e2 HRD HG HLL TT1 BAD
        generalize hnv : nmB t = nv at *
        clear hnv
        go_wp2_with fail
        (with_reducible refine Calls.mono NB.out ?_)
        rintro ee w4 ⟨rfl, hb4⟩
        have R4 := HR3.out.below hb4 HR3.out.lt
        have HM4 := Lib.hid (HM3.out.trans (Mv.of_below hb4 (by omega)))
        have HC4 := Lib.hid (HX3.out.cu.below hb4)
        obtain ⟨c0, c1, c2', c3⟩ := R4.c
        have f0 := R4.f 0
        have f1 := R4.f 1
        have f2 := R4.f 2
        have f3 := R4.f 3
        clear NB hb4 R4 HR3 HM3 HX3
        go_wp2_with fail
        refine bodyPost_ret (v := .tuple #[.agg #[.int .i64 1, .int .i64 nv, .string ⟨#[]⟩, .slice none 0 0], .bool true]) (by simp [results, Tryz.results116, go_sem, c0, c1, c2', c3]) rfl ?_
        rw [hres.out]
        exact pret_store (res := some (numE nv, ws.drop (k + 1))) (e := numE nv) (A' := none) (c := 0) (lo := w.heap.size + 1) hlt HM4.out HC4.out (fun p hp => by injection hp with hp; rw [← hp]) (.inl rfl) (Nat.lt_succ_self _) (fun p hp => by injection hp with hp; rw [← hp])
      · have b2 : (z == 2) = false := beq_no hz2
        by_cases hz1 : z = 1
        · subst hz1
          have HRD2 := Lib.hid (show res = if isT (ws.drop (k + 1)) lpS = true then callR t (rdC nmB m (ws.drop (k + 2))) else some (varE t, ws.drop (k + 1)) by rw [HRD.out, if_neg (by omega), if_pos rfl])
          have TL := (TT1 w3 HX3.out.cu).out
          unfold lpS at TL
          replace TL := Lib.hid TL
          clear HRD hz2 TT1 BAD
          go_wp2_with fail
          (with_reducible refine Calls.mono TL.out ?_)
          rintro ee w4 ⟨rfl, hm4, hc4⟩
          have e1 : isT (ws.drop (k + 1)) ⟨#[40]⟩ = isT (ws.drop (k + 1)) lpS := rfl
          rw [e1] at hc4 ⊢
          have HM4 := Lib.hid (HM3.out.trans hm4)
          have HX4 := Lib.hid (HX3.out.mv hm4 hc4)
          have HR4 := Lib.hid (HR3.out.mv hm4 hlt)
          have i1 := (hm4.1.cell (o := 1) hlt2 hlx).trans j1
          have hs4 := hm4.1.below.size
          clear TL hm4 hc4 e1 HM3 HX3 HR3
          cases hb2 : isT (ws.drop (k + 1)) lpS
          · rw [hb2] at HX4 HRD2
            have hres := Lib.hid (show res = some (varE t, ws.drop (k + 1)) from HRD2.out)
            have HC4 := Lib.hid (show Cu w4 R A cap ws (k + 1) from HX4.out.cu)
            obtain ⟨c0, c1, c2', c3⟩ := HR4.out.c
            have f0 := HR4.out.f 0
            have f1 := HR4.out.f 1
            have f2 := HR4.out.f 2
            have f3 := HR4.out.f 3
            clear hb2 HRD2 HG HLL
            go_wp2_with fail
            refine bodyPost_ret (v := .tuple #[.agg #[.int .i64 2, .int .i64 0, .string t, .slice none 0 0], .bool true]) (by simp [results, Tryz.results116, go_sem, c0, c1, c2', c3]) rfl ?_
            rw [hres.out]
            exact pret_store (res := some (varE t, ws.drop (k + 1))) (e := varE t) (A' := none) (c := 0) (lo := w.heap.size + 1) hlt HM4.out HC4.out (fun p hp => by injection hp with hp; rw [← hp]) (.inl rfl) (Nat.lt_succ_self _) (fun p hp => by injection hp with hp; rw [← hp])
          · rw [hb2] at HX4 HRD2
            obtain ⟨hk2, _⟩ := isT_lt hb2
            have hres := Lib.hid (show res = callR t (rdC nmB m (ws.drop (k + 2))) from HRD2.out)
            have L5 := Lib.hid (HLL.out t w4 hk2 HX4.out (HG.out w4 HM4.out))
            clear hb2 HRD2 HG HLL HX4
            generalize callR t (rdC nmB m (ws.drop (k + 2))) = rr at *
            obtain rfl := hres.out
            go_wp2_with fail
            (with_reducible refine Calls.mono L5.out ?_)
            rintro ee w5 ⟨hm5, ⟨k5, hc5, hd5⟩, x, A5, c5, rfl, hp5, hx⟩
            unfold exV
            have hs5 := hm5.1.below.size
            have HP5 := Lib.hid (PdD.wide (lo' := w.heap.size + 1) hp5 (by omega) (Nat.le_refl _))
            have R5 := HR4.out.mv hm5 hlt
            have HF := Lib.hid (pret_store (c := c5) hlt (HM4.out.trans hm5) hc5 hd5 HP5.out (Nat.lt_succ_self _) hx)
            obtain ⟨c0, c1, c2', c3⟩ := R5.c
            have f0 := R5.f 0
            have f1 := R5.f 1
            have f2 := R5.f 2
            have f3 := R5.f 3
            clear L5 hm5 hc5 hd5 hp5 hx HP5 R5 HR4 HM4 hres
            generalize res.isSome = bb at *
            go_wp2_with fail
            refine bodyPost_ret (v := .tuple #[.agg #[.int .i64 x.op, .int .i64 x.n, .string x.name, .slice A5 x.kids.length c5], .bool bb]) (by simp [results, Tryz.results116, go_sem, c0, c1, c2', c3]) rfl ?_
            exact HF.out
        · have b1 : (z == 1) = false := beq_no hz1
          have hres := Lib.hid (show res = none by rw [HRD.out, if_neg hz2, if_neg hz1])
          have HC3 := Lib.hid HX3.out.cu
          obtain ⟨c0, c1, c2', c3⟩ := HR3.out.c
          have f0 := HR3.out.f 0
          have f1 := HR3.out.f 1
          have f2 := HR3.out.f 2
          have f3 := HR3.out.f 3
          clear HRD hz1 hz2 TT1 HG HLL HX3 HR3
          go_wp2_with fail
          refine bodyPost_ret (v := .tuple #[.agg #[.int .i64 0, .int .i64 0, .string ⟨#[]⟩, .slice none 0 0], .bool false]) (by simp [results, Tryz.results116, go_sem, c0, c1, c2', c3]) rfl ?_
          exact BAD.out w3 HM3.out HC3.out hres.out
    · have HRD := Lib.hid (show rdW nmB (m + 1) (ws.drop k) = none by rw [List.drop_eq_nil_of_le (by omega)]; rfl)
      have TK := Lib.hid (take_no R cap k A ws w1 HC2.out hkl)
      clear hb HC2 HX1 HEE TT HV HX2 HLL HG
      generalize rdW nmB (m + 1) (ws.drop k) = res at *
      go_wp2_with fail
      (with_reducible refine Calls.mono TK.out ?_)
      rintro ee w2 ⟨rfl, hm2, hc2⟩
      have hs2 := hm2.1.below.size
      have hlt2 : R < w2.heap.size := by omega
      have hal := (Below.refl w2.heap.size w2).alloc (Nat.le_refl _) (.cells #[.int .i64 0, .string ⟨#[]⟩] 138)
      have j0 : (w2.alloc (.cells #[.int .i64 0, .string ⟨#[]⟩] 138)).cell? ⟨w2.heap.size, 0, none⟩ = some (.int .i64 0) := alloc_cell w2 #[.int .i64 0, .string ⟨#[]⟩] 138 (0, 0) 0
      have R2 := HR1.out.mv hm2 hlt
      have R3 := R2.below hal R2.lt
      have HM3 := Lib.hid ((HM1.out.trans hm2).trans (Mv.of_below hal hlt2))
      have HC3 := Lib.hid (hc2.below hal)
      obtain ⟨c0, c1, c2', c3⟩ := R3.c
      have f0 := R3.f 0
      have f1 := R3.f 1
      have f2 := R3.f 2
      have f3 := R3.f 3
      clear TK hm2 hc2 hal R2 R3 HM1 HR1
      go_upto_region 7 with (fail)
      generalize w2.alloc (.cells #[.int .i64 0, .string ⟨#[]⟩] 138) = w3 at *
      go_wp2_with fail
      refine bodyPost_ret (v := .tuple #[.agg #[.int .i64 0, .int .i64 0, .string ⟨#[]⟩, .slice none 0 0], .bool false]) (by simp [results, Tryz.results116, go_sem, c0, c1, c2', c3]) rfl ?_
      rw [HRD.out]
      exact pret_store (res := none) (e := E.none) (A' := none) (c := 0) (lo := w.heap.size + 1) hlt HM3.out HC3.out (fun p hp => by cases hp) (.inl rfl) (Nat.lt_succ_self _) (fun p hp => by cases hp)
  · rw [hb] at HX1
    obtain ⟨hkl, htx⟩ := isT_lt hb
    have HRD := Lib.hid (show rdW nmB (m + 1) (ws.drop k) = (rdL nmB m 1 (ws.drop (k + 1))).bind fun p => if isT p.2 rpS = true then some (p.1, p.2.tail) else none by
      rw [List.drop_eq_getElem_cons hkl, rdW_eq, if_pos htx])
    have HX2 := Lib.hid (show XR w1 R A cap ws (k + 1) from HX1.out)
    have E1 := Lib.hid (HEE.out w1 HX2.out (HG.out w1 HM1.out))
    have HLS := Lib.hid (fun e r => (rd_less nmB m).L 1 (ws.drop (k + 1)) e r (by omega))
    clear hb htx HX1 HX2 HEE HLL HG
    generalize rdW nmB (m + 1) (ws.drop k) = res at *
    generalize rdL nmB m 1 (ws.drop (k + 1)) = r1 at *
    go_wp2_with fail
    (with_reducible refine Calls.mono E1.out ?_)
    rintro ee w2 ⟨hm2, ⟨k2, hc2, hd2⟩, x, A2, cc, rfl, hp2, hx⟩
    unfold exV
    have hal := (Below.refl w2.heap.size w2).alloc (Nat.le_refl _) (.cells #[.int .i64 x.op, .int .i64 x.n, .string x.name, .slice A2 x.kids.length cc] 28)
    have b0 := alloc_cell w2 #[.int .i64 x.op, .int .i64 x.n, .string x.name, .slice A2 x.kids.length cc] 28 (0, 0) 0
    have b1 := alloc_cell w2 #[.int .i64 x.op, .int .i64 x.n, .string x.name, .slice A2 x.kids.length cc] 28 (0, 0) 1
    have b2 := alloc_cell w2 #[.int .i64 x.op, .int .i64 x.n, .string x.name, .slice A2 x.kids.length cc] 28 (0, 0) 2
    have b3 := alloc_cell w2 #[.int .i64 x.op, .int .i64 x.n, .string x.name, .slice A2 x.kids.length cc] 28 (0, 0) 3
    replace b0 : (w2.alloc (.cells #[.int .i64 x.op, .int .i64 x.n, .string x.name, .slice A2 x.kids.length cc] 28)).cell? ⟨w2.heap.size, 0, none⟩ = some (.int .i64 x.op) := b0
    replace b1 : (w2.alloc (.cells #[.int .i64 x.op, .int .i64 x.n, .string x.name, .slice A2 x.kids.length cc] 28)).cell? ⟨w2.heap.size, 1, none⟩ = some (.int .i64 x.n) := b1
    replace b2 : (w2.alloc (.cells #[.int .i64 x.op, .int .i64 x.n, .string x.name, .slice A2 x.kids.length cc] 28)).cell? ⟨w2.heap.size, 2, none⟩ = some (.string x.name) := b2
    replace b3 : (w2.alloc (.cells #[.int .i64 x.op, .int .i64 x.n, .string x.name, .slice A2 x.kids.length cc] 28)).cell? ⟨w2.heap.size, 3, none⟩ = some (.slice A2 x.kids.length cc) := b3
    have hs2 := hm2.1.below.size
    have hlt2 : R < w2.heap.size := by omega
    have hlx : w2.heap.size < (w2.alloc (.cells #[.int .i64 x.op, .int .i64 x.n, .string x.name, .slice A2 x.kids.length cc] 28)).heap.size := by rw [World.size_alloc]; omega
    have R2 := HR1.out.mv hm2 hlt
    have HR3 := Lib.hid (R2.below hal R2.lt)
    have HM3 := Lib.hid ((HM1.out.trans hm2).trans (Mv.of_below hal hlt2))
    have HC3 := Lib.hid (hc2.below hal)
    have HP3 := Lib.hid (PdD.later hp2 hal (Nat.le_refl _) hal.size)
    have hs3 := hal.size
    have HXE := Lib.hid hx
    have HD2 := Lib.hid hd2
    have hk2le := hc2.le
    clear E1 hm2 hc2 hd2 hp2 hx hal HR1 HM1 R2
    go_upto_region 3 with (fail)
    generalize w2.alloc (.cells #[.int .i64 x.op, .int .i64 x.n, .string x.name, .slice A2 x.kids.length cc] 28) = w3 at *
    rcases hr1 : r1 with _ | ⟨x', r⟩
    · have hres := Lib.hid (show res = none by rw [HRD.out, hr1]; rfl)
      have e0 : (none : Option (E × List W)).isSome = false := rfl
      subst hr1
      rw [e0]
      obtain ⟨c0, c1, c2', c3⟩ := HR3.out.c
      have f0 := HR3.out.f 0
      have f1 := HR3.out.f 1
      have f2 := HR3.out.f 2
      have f3 := HR3.out.f 3
      clear e0 HRD HLS HXE HD2 HP3 TT
      go_wp2_with fail
      refine bodyPost_ret (v := .tuple #[.agg #[.int .i64 0, .int .i64 0, .string ⟨#[]⟩, .slice none 0 0], .bool false]) (by simp [results, Tryz.results116, go_sem, c0, c1, c2', c3]) rfl ?_
      rw [hres.out]
      exact pret_store (res := none) (e := E.none) (A' := none) (c := 0) (lo := w.heap.size + 1) hlt HM3.out HC3.out (fun p hp => by cases hp) (.inl rfl) (Nat.lt_succ_self _) (fun p hp => by cases hp)
    · obtain ⟨a1, a2, _, _⟩ := HLS.out _ _ hr1
      obtain ⟨k3, q1, q2, q3, q4⟩ := suf_place a1 a2
      obtain rfl : x = x' := HXE.out _ hr1
      have hd := HD2.out _ hr1
      dsimp only at hd
      have hk3 : k2 = k3 := by
        have h1 : (ws.drop k2).length = (ws.drop k3).length := by rw [hd, q3]
        rw [List.length_drop, List.length_drop] at h1
        omega
      subst hk3
      subst hr1
      have e0 : (some (x, r) : Option (E × List W)).isSome = true := rfl
      rw [e0]
      have HRD2 := Lib.hid (show res = if isT (ws.drop k2) rpS = true then some (x, ws.drop (k2 + 1)) else none by
        rw [HRD.out, ← tail_drop, ← q3]; rfl)
      have TR := (TT rpS k2 w3 HC3.out).out
      unfold rpS at TR
      replace TR := Lib.hid TR
      clear e0 HRD HLS HXE HD2 a1 a2 q3 q4 hd TT
      go_wp2_with fail
      (with_reducible refine Calls.mono TR.out ?_)
      rintro ee w4 ⟨rfl, hm4, hc4⟩
      have e1 : isT (ws.drop k2) ⟨#[41]⟩ = isT (ws.drop k2) rpS := rfl
      rw [e1] at hc4 ⊢
      have HM4 := Lib.hid (HM3.out.trans hm4)
      have R4 := HR3.out.mv hm4 hlt
      have d0 := (hm4.1.cell (o := 0) hlt2 hlx).trans b0
      have d1 := (hm4.1.cell (o := 1) hlt2 hlx).trans b1
      have d2 := (hm4.1.cell (o := 2) hlt2 hlx).trans b2
      have d3 := (hm4.1.cell (o := 3) hlt2 hlx).trans b3
      have HP4 := Lib.hid (PdD.wide (lo' := w.heap.size + 1) (hi' := w4.heap.size) (HP3.out.mv hm4 (by omega) (Nat.le_refl _)) (by omega) hm4.1.below.size)
      have HC4 := Lib.hid hc4
      obtain ⟨c0, c1, c2', c3⟩ := R4.c
      have f0 := R4.f 0
      have f1 := R4.f 1
      have f2 := R4.f 2
      have f3 := R4.f 3
      clear TR hm4 hc4 e1 HM3 HR3 HP3 HC3 R4 b0 b1 b2 b3
      cases hb2 : isT (ws.drop k2) rpS
      · rw [hb2] at HC4 HRD2
        have hres := Lib.hid (show res = none from HRD2.out)
        clear hb2 HRD2
        go_wp2_with fail
        refine bodyPost_ret (v := .tuple #[.agg #[.int .i64 0, .int .i64 0, .string ⟨#[]⟩, .slice none 0 0], .bool false]) (by simp [results, Tryz.results116, go_sem, c0, c1, c2', c3]) rfl ?_
        rw [hres.out]
        exact pret_store (res := none) (e := E.none) (A' := none) (c := 0) (lo := w.heap.size + 1) hlt HM4.out HC4.out (fun p hp => by cases hp) (.inl rfl) (Nat.lt_succ_self _) (fun p hp => by cases hp)
      · rw [hb2] at HC4 HRD2
        have hres := Lib.hid (show res = some (x, ws.drop (k2 + 1)) from HRD2.out)
        have HC5 := Lib.hid (show Cu w4 R A cap ws (k2 + 1) from HC4.out)
        clear hb2 HRD2 HC4
        go_wp2_with fail
        refine bodyPost_ret (v := .tuple #[.agg #[.int .i64 x.op, .int .i64 x.n, .string x.name, .slice A2 x.kids.length cc], .bool true]) (by simp [results, Tryz.results116, go_sem, c0, c1, c2', c3]) rfl ?_
        rw [hres.out]
        exact pret_store (res := some (x, ws.drop (k2 + 1))) (e := x) hlt HM4.out HC5.out (fun p hp => by injection hp with hp; rw [← hp]) HP4.out (Nat.lt_succ_self _) (fun p hp => by injection hp with hp; rw [← hp])
end Go.Proofs.YtljdbjfbcjigaaaGreatDoor

namespace Go.Proofs.YtljdbjfbcjigaaaGreatDoor
open Go.RowKit
set_option maxRecDepth 100000

structure Imp (R cap : Nat) (A : Option Addr) (ws : List W) (m : Nat) : Prop where
  L : ∀ (l k : Nat) (W : World), 1 ≤ l → l ≤ 4 → 10 * (ws.length - k) + 10 ≤ m + l → XR W R A cap ws k → Rts R W → Calls Tryz.prog 111 #[.pointer (some ⟨R + 1, 0, none⟩), .pointer (some ⟨R + 1 + l, 0, none⟩)] W (PRet R cap A ws (rdL nmB m l (ws.drop k)) W)
  T : ∀ (k : Nat) (W : World), 10 * (ws.length - k) + 4 ≤ m → XR W R A cap ws k → Rts R W → Calls Tryz.prog 113 #[.pointer (some ⟨R + 1, 0, none⟩)] W (PRet R cap A ws (rdT nmB m (ws.drop k)) W)
  Wh : ∀ (k : Nat) (W : World), 10 * (ws.length - k) + 3 ≤ m → XR W R A cap ws k → Rts R W → Calls Tryz.prog 115 #[.pointer (some ⟨R + 1, 0, none⟩)] W (PRet R cap A ws (rdW nmB m (ws.drop k)) W)
theorem Imp.X {R cap : Nat} {A : Option Addr} {ws : List W} {m : Nat} (h : Imp R cap A ws m) (k : Nat) (W : World) (hf : 10 * (ws.length - k) + 10 ≤ m + 1) (hX : XR W R A cap ws k) (G : Rts R W) :
    Calls Tryz.prog 71 #[.pointer (some ⟨R, 0, none⟩)] W (PRet R cap A ws (rdL nmB m 1 (ws.drop k)) W) :=
  readExpr_of R cap k A ws W hX G _ (fun W' h1 h2 => h.L 1 k W' (Nat.le_refl _) (by omega) hf h1 h2)
/-- The next level. -/
theorem Imp.up {R cap : Nat} {A : Option Addr} {ws : List W} {m : Nat} (ih : ∀ m', m' ≤ m → Imp R cap A ws m') (k : Nat) (W : World) (hf : 10 * (ws.length - k) + 10 ≤ m + 5) (hX : XR W R A cap ws k) (G : Rts R W) :
    Calls Tryz.prog 113 #[.pointer (some ⟨R + 1, 0, none⟩)] W (PRet R cap A ws (rdL nmB m 5 (ws.drop k)) W) := by
  obtain ⟨q, rfl⟩ : ∃ q, m = q + 1 := ⟨m - 1, by omega⟩
  have e : rdL nmB (q + 1) 5 (ws.drop k) = rdT nmB q (ws.drop k) := by
    show (if 4 < 5 then rdT nmB q (ws.drop k) else _) = _
    rw [if_pos (by omega)]
  rw [e]
  exact (ih q (by omega)).T k W (by omega) hX G
theorem imp_all (R cap : Nat) (A : Option Addr) (ws : List W) (hn : ws.length ≤ 600) (hvs : ∀ x ∈ ws, x.2.size ≤ 4) : ∀ m, ∀ m', m' ≤ m → Imp R cap A ws m'
  | 0 => fun m' hm' => by
    obtain rfl : m' = 0 := by omega
    exact ⟨fun l k W h1 h2 h3 _ _ => by omega, fun k W h _ _ => by omega, fun k W h _ _ => by omega⟩
  | m + 1 => fun m' hm' => by
    have ih := imp_all R cap A ws hn hvs m
    by_cases h : m' ≤ m
    · exact ih m' h
    · obtain rfl : m' = m + 1 := by omega
      refine ⟨fun l k W h1 h2 h3 hX G => ?_, fun k W h1 hX G => ?_, fun k W h1 hX G => ?_⟩
      · refine close1 R cap k A ws W hX G _ l h1 h2 (fun W' hX' G' => ?_)
        have hl : l = 1 ∨ l = 2 ∨ l = 3 ∨ l = 4 := by omega
        rcases hl with rfl | rfl | rfl | rfl
        · exact readBetween_1 R cap k m A ws W' hn hX' (by omega) G' (fun m2 k2 W2 q1 q2 q3 q4 => (ih m2 q1).L 2 k2 W2 (by omega) (by omega) (by omega) q3 q4)
        · exact readBetween_2 R cap k m A ws W' hn hX' (by omega) G' (fun m2 k2 W2 q1 q2 q3 q4 => (ih m2 q1).L 3 k2 W2 (by omega) (by omega) (by omega) q3 q4)
        · exact readBetween_3 R cap k m A ws W' hn hX' (by omega) G' (fun m2 k2 W2 q1 q2 q3 q4 => (ih m2 q1).L 4 k2 W2 (by omega) (by omega) (by omega) q3 q4)
        · exact readBetween_4 R cap k m A ws W' hn hX' (by omega) G' (fun m2 k2 W2 q1 q2 q3 q4 => Imp.up (fun m3 h3 => ih m3 (by omega)) k2 W2 (by omega) q3 q4)
      · refine close2 R cap k A ws W hX G _ (fun W' hX' G' => ?_)
        exact readAhead_of R cap k m A ws W' hn hX' G' (fun k2 W2 q1 q2 q3 => (ih m (Nat.le_refl _)).T k2 W2 (by have := q2.cu.le; omega) q2 q3) (fun W2 q2 q3 => (ih m (Nat.le_refl _)).Wh k W2 (by omega) q2 q3)
      · refine close3 R cap k A ws W hX G _ (fun W' hX' G' => ?_)
        refine readWhole_of R cap k m A ws W' hn hvs hX' G' (fun W2 q2 q3 => (ih m (Nat.le_refl _)).X (k + 1) W2 (by have := q2.cu.le; omega) q2 q3) (fun s W2 hk2 q2 q3 => ?_)
        refine readCall_of R cap (k + 2) A ws s W2 q2 q3 _ (fun W3 q4 q5 => ?_)
        obtain ⟨q, rfl⟩ : ∃ q, m = q + 1 := ⟨m - 1, by omega⟩
        exact readListed_of R cap (k + 2) q A ws W3 hn q4 (by omega) q5 (fun m4 k4 W4 q6 q7 q8 q9 => (ih m4 (by omega)).X k4 W4 q7 q8 q9)
end Go.Proofs.YtljdbjfbcjigaaaGreatDoor

namespace Go.Proofs.YtljdbjfbcjigaaaGreatDoor
open Go.RowKit
set_option maxRecDepth 100000


end Go.Proofs.YtljdbjfbcjigaaaGreatDoor

namespace Go.Proofs.YtljdbjfbcjigaaaGreatDoor
open Go.RowKit
set_option maxRecDepth 100000

end Go.Proofs.YtljdbjfbcjigaaaGreatDoor

namespace Go.Proofs.YtljdbjfbcjigaaaGreatDoor
open Go.RowKit
set_option maxRecDepth 100000

/-- What ReadExpr leaves. -/
def RdX (p : E × Bool) (w : World) (ee : Ending) (w' : World) : Prop :=
  ∃ (A : Option Addr) (c : Nat), ee = .returned (.tuple #[exV p.1 A c, .bool p.2]) ∧ PdS w' (Between w' w.heap.size w'.heap.size) p.1.kids A ∧ Below w.heap.size w w'
theorem readW_cases (ws : List W) : (rdL nmB 6100 1 ws = none ∧ readW ws = (E.none, false)) ∨ ∃ e r, rdL nmB 6100 1 ws = some (e, r) ∧ readW ws = if r = [] ∧ validE e = true then (e, true) else (E.none, false) := by
  cases h : rdL nmB 6100 1 ws with
  | none => exact .inl ⟨rfl, by unfold readW; rw [h]⟩
  | some p =>
    obtain ⟨e, r⟩ := p
    refine .inr ⟨e, r, rfl, ?_⟩
    unfold readW
    rw [h]
    cases r with
    | nil =>
      dsimp only
      cases validE e <;> simp
    | cons _ _ => simp
theorem readF_no {s : ByteArray} {ws : List W} (h : cutRes s = (ws, false)) : readF s = (E.none, false) := by unfold readF; rw [h]; rfl
theorem readF_ok {s : ByteArray} {ws : List W} (h : cutRes s = (ws, true)) : readF s = readW ws := by unfold readF; rw [h]; rfl
theorem words_four {s : ByteArray} {ws : List W} {b : Bool} (h : cutRes s = (ws, b)) : ∀ x ∈ ws, x.2.size ≤ 4 := by
  have hv := cutRes_valid s
  rw [h] at hv
  exact fun x hx => validB_size (hv x hx)
end Go.Proofs.YtljdbjfbcjigaaaGreatDoor
