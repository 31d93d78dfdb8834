/-
  The program's ReadExpr.
-/
import Derived.Test.YtkhcfhhejmkikaaGreatDoorMg11
namespace Go.Proofs.YtkhcfhhejmkikaaGreatDoor
open Go.RowKit
set_option maxRecDepth 100000

def callR (s : ByteArray) (r : Option (List E × List W)) : Option (E × List W) := r.bind fun p => some (callE s p.1, p.2)
theorem callR_some (s : ByteArray) (r : Option (List E × List W)) : (callR s r).isSome = r.isSome := by cases r <;> rfl
set_option maxHeartbeats 4000000 in
theorem readCall_of (R cap k : Nat) (A : Option Addr) (ws : List W) (s : ByteArray) (w : World) (h : XR w R A cap ws k) (G : Rts R w) (res : Option (List E × List W))
    (HL : ∀ W, XR W R A cap ws k → Rts R W → Calls Tryz.prog 115 #[.pointer (some ⟨R, 0, none⟩), .func (.func 29) #[.pointer (some ⟨R, 0, none⟩)] #[]] W (QRet R cap A ws res W)) :
    Calls Tryz.prog 103 #[.pointer (some ⟨R, 0, none⟩), .string s] w (PRet R cap A ws (callR s res) w) := by
  have hb0 := (Below.refl w.heap.size w).alloc (Nat.le_refl _) (.cells #[.int .i64 0, .int .i64 0, .string ⟨#[]⟩, .slice none 0 0] 24)
  have R0 := Lib.hid (Res.new w (.int .i64 0) (.int .i64 0) (.string ⟨#[]⟩) (.slice none 0 0) 24)
  have hz0 : (w.alloc (.cells #[.int .i64 0, .int .i64 0, .string ⟨#[]⟩, .slice none 0 0] 24)).heap.size = w.heap.size + 1 := World.size_alloc _ _
  have HM0 := Lib.hid (Mv.of_below (R := R) hb0 h.cu.lt)
  have hlt := h.cu.lt
  have L1 := Lib.hid (HL _ (h.below hb0) (G.mv HM0.out))
  clear hb0 h G HL
  go_enter Tryz.func103, Tryz.ntmps103
  go_wp2_with fail
  (with_reducible refine Calls.mono L1.out ?_)
  rintro ee w2 ⟨hm2, ⟨k2, hc2, hk2⟩, ks, A2, c2, rfl, hp2, he⟩
  have hs2 := hm2.1.below.size
  have HP2 := Lib.hid (PdD.wide (lo' := w.heap.size + 1) hp2 (by omega) (Nat.le_refl _))
  have R2 := R0.out.mv hm2 hlt
  obtain ⟨c0, c1, c2', c3⟩ := R2.c
  have f0 := R2.f 0
  have f1 := R2.f 1
  have f2 := R2.f 2
  have f3 := R2.f 3
  have HF := Lib.hid (pret_store (res := callR s res) (e := callE s ks) (c := c2) hlt (HM0.out.trans hm2) hc2 (fun p hp => by
    cases hr : res with
    | none => rw [hr] at hp; cases hp
    | some q => rw [hr] at hp; injection hp with hp; rw [← hp]; exact hk2 q hr) HP2.out (Nat.lt_succ_self _) (fun p hp => by
    cases hr : res with
    | none => rw [hr] at hp; cases hp
    | some q => rw [hr] at hp; injection hp with hp; rw [← hp, he q hr]))
  rw [callR_some] at HF
  clear R0 HM0 L1 hm2 hc2 hk2 hp2 he HP2 R2
  generalize res.isSome = bb at *
  go_wp2_with fail
  refine bodyPost_ret (v := .tuple #[.agg #[.int .i64 13, .int .i64 0, .string s, .slice A2 ks.length c2], .bool bb]) (by simp [results, Tryz.results103, go_sem, c0, c1, c2', c3]) rfl ?_
  exact HF.out
set_option maxHeartbeats 16000000 in
theorem readWhole_of (R cap k m : Nat) (A : Option Addr) (ws : List W) (w : World) (hn : ws.length ≤ 600) (hvs : ∀ x ∈ ws, x.2.size ≤ 4) (h : XR w R A cap ws k) (G : Rts R w)
    (HE : ∀ W, XR W R A cap ws (k + 1) → Rts R W → Calls Tryz.prog 29 #[.pointer (some ⟨R, 0, none⟩)] W (PRet R cap A ws (rdL nmB m 1 (ws.drop (k + 1))) W))
    (HL : ∀ (s : ByteArray) W, k + 2 ≤ ws.length → XR W R A cap ws (k + 2) → Rts R W → Calls Tryz.prog 103 #[.pointer (some ⟨R, 0, none⟩), .string s] W (PRet R cap A ws (callR s (rdC nmB m (ws.drop (k + 2)))) W)) :
    Calls Tryz.prog 67 #[.pointer (some ⟨R, 0, none⟩)] w (PRet R cap A ws (rdW nmB (m + 1) (ws.drop k)) w) := by
  have hb0 := (Below.refl w.heap.size w).alloc (Nat.le_refl _) (.cells #[.int .i64 0, .int .i64 0, .string ⟨#[]⟩, .slice none 0 0] 24)
  have R0 := Lib.hid (Res.new w (.int .i64 0) (.int .i64 0) (.string ⟨#[]⟩) (.slice none 0 0) 24)
  have hz0 : (w.alloc (.cells #[.int .i64 0, .int .i64 0, .string ⟨#[]⟩, .slice none 0 0] 24)).heap.size = w.heap.size + 1 := World.size_alloc _ _
  have HM0 := Lib.hid (Mv.of_below (R := R) hb0 h.cu.lt)
  have hlt := h.cu.lt
  have hrs := h.sz
  have HX0 := Lib.hid (h.below hb0)
  have HG := Lib.hid (show ∀ W, Mv R w W → Rts R W from fun W hm => G.mv hm)
  have TT := fun s k' W (hc : Cu W R A cap ws k') => Lib.hid (takeText_any R cap k' A ws s W hc hn)
  have TL := (TT lpS k _ HX0.out.cu).out
  unfold lpS at TL
  replace TL := Lib.hid TL
  have HEE := Lib.hid HE
  have HLL := Lib.hid HL
  have HV := Lib.hid hvs
  clear hb0 h G HE HL hvs
  go_enter Tryz.func67, Tryz.ntmps67
  go_wp2_with fail
  (with_reducible refine Calls.mono TL.out ?_)
  rintro ee w1 ⟨rfl, hm1, hc1⟩
  have e1 : isT (ws.drop k) ⟨#[40]⟩ = isT (ws.drop k) lpS := rfl
  rw [e1] at hc1 ⊢
  have HM1 := Lib.hid (HM0.out.trans hm1)
  have HX1 := Lib.hid (HX0.out.mv hm1 hc1)
  have HR1 := Lib.hid (R0.out.mv hm1 hlt)
  have hs1 := hm1.1.below.size
  clear TL hm1 hc1 e1 HM0 HX0 R0
  cases hb : isT (ws.drop k) lpS
  · have HC2 := Lib.hid (show Cu w1 R A cap ws k from by have h := HX1.out.cu; rw [hb] at h; exact h)
    have HX2 := Lib.hid (show XR w1 R A cap ws k from by have h := HX1.out; rw [hb] at h; exact h)
    by_cases hkl : k < ws.length
    · have hne : ws[k].2 ≠ lpS := by intro e; rw [isT_drop, dif_pos hkl, decide_eq_true e] at hb; cases hb
      have HRD := Lib.hid (show rdW nmB (m + 1) (ws.drop k) = if ws[k].1 = 2 then some (numE (nmB ws[k].2), ws.drop (k + 1)) else if ws[k].1 = 1 then (if isT (ws.drop (k + 1)) lpS = true then callR ws[k].2 (rdC nmB m (ws.drop (k + 2))) else some (varE ws[k].2, ws.drop (k + 1))) else none by
        rw [List.drop_eq_getElem_cons hkl, rdW_eq, if_neg hne, tail_drop]; rfl)
      have TK := Lib.hid (take_yes R cap k A ws w1 HC2.out hn hkl)
      have hv4 := HV.out _ (List.getElem_mem hkl)
      have TT1 := TT lpS (k + 1)
      clear hb hne HC2 HX1 HEE TT HV
      generalize hz : ws[k].1 = z at *
      generalize ht : ws[k].2 = t at *
      clear hz ht
      generalize rdW nmB (m + 1) (ws.drop k) = res at *
      go_wp2_with fail
      (with_reducible refine Calls.mono TK.out ?_)
      rintro ee w2 ⟨rfl, hm2, hc2⟩
      have hs2 := hm2.1.below.size
      have hlt2 : R < w2.heap.size := by omega
      have hal := (Below.refl w2.heap.size w2).alloc (Nat.le_refl _) (.cells #[.int .i64 z, .string t] 76)
      have j0 : (w2.alloc (.cells #[.int .i64 z, .string t] 76)).cell? ⟨w2.heap.size, 0, none⟩ = some (.int .i64 z) := alloc_cell w2 #[.int .i64 z, .string t] 76 (0, 0) 0
      have j1 : (w2.alloc (.cells #[.int .i64 z, .string t] 76)).cell? ⟨w2.heap.size, 1, none⟩ = some (.string t) := alloc_cell w2 #[.int .i64 z, .string t] 76 (0, 0) 1
      have hlx : w2.heap.size < (w2.alloc (.cells #[.int .i64 z, .string t] 76)).heap.size := by rw [World.size_alloc]; omega
      have R2 := HR1.out.mv hm2 hlt
      have HR3 := Lib.hid (R2.below hal R2.lt)
      have HM3 := Lib.hid ((HM1.out.trans hm2).trans (Mv.of_below hal hlt2))
      have HX3 := Lib.hid ((HX2.out.mv hm2 hc2).below hal)
      clear TK hm2 hc2 hal R2 HX2 HM1 HR1
      go_upto_region 7 with (fail)
      generalize w2.alloc (.cells #[.int .i64 z, .string t] 76) = w3 at *
      have hkl1 : k + 1 ≤ ws.length := hkl
      have bad : ∀ W, Mv R w W → Cu W R A cap ws (k + 1) → res = none → PRet R cap A ws res w (.returned (.tuple #[.agg #[.int .i64 0, .int .i64 0, .string ⟨#[]⟩, .slice none 0 0], .bool false])) ((((W.setCell ⟨w.heap.size, 0, none⟩ (.int .i64 0)).setCell ⟨w.heap.size, 1, none⟩ (.int .i64 0)).setCell ⟨w.heap.size, 2, none⟩ (.string ⟨#[]⟩)).setCell ⟨w.heap.size, 3, none⟩ (.slice none 0 0)) := by
        intro W hm hc hr
        rw [hr]
        exact pret_store (res := none) (e := E.none) (A' := none) (c := 0) (lo := w.heap.size + 1) hlt hm hc (fun p hp => by cases hp) (.inl rfl) (Nat.lt_succ_self _) (fun p hp => by cases hp)
      have BAD := Lib.hid bad
      clear bad
      by_cases hz2 : z = 2
      · subst hz2
        have hres := Lib.hid (show res = some (numE (nmB t), ws.drop (k + 1)) by rw [HRD.out, if_pos rfl])
        have NB := Lib.hid (implNumberOf_any 2 t w3 (by omega) (HG.out w3 HM3.out).nt)
        have e2 : numOfB 2 t = nmB t := by unfold numOfB; rw [if_pos rfl]; rfl
        rw [e2] at NB
        clear e2 HRD HG HLL TT1 BAD
        generalize hnv : nmB t = nv at *
        clear hnv
        go_wp2_with fail
        (with_reducible refine Calls.mono NB.out ?_)
        rintro ee w4 ⟨rfl, hb4⟩
        have R4 := HR3.out.below hb4 HR3.out.lt
        have HM4 := Lib.hid (HM3.out.trans (Mv.of_below hb4 (by omega)))
        have HC4 := Lib.hid (HX3.out.cu.below hb4)
        obtain ⟨c0, c1, c2', c3⟩ := R4.c
        have f0 := R4.f 0
        have f1 := R4.f 1
        have f2 := R4.f 2
        have f3 := R4.f 3
        clear NB hb4 R4 HR3 HM3 HX3
        go_wp2_with fail
        refine bodyPost_ret (v := .tuple #[.agg #[.int .i64 1, .int .i64 nv, .string ⟨#[]⟩, .slice none 0 0], .bool true]) (by simp [results, Tryz.results67, go_sem, c0, c1, c2', c3]) rfl ?_
        rw [hres.out]
        exact pret_store (res := some (numE nv, ws.drop (k + 1))) (e := numE nv) (A' := none) (c := 0) (lo := w.heap.size + 1) hlt HM4.out HC4.out (fun p hp => by injection hp with hp; rw [← hp]) (.inl rfl) (Nat.lt_succ_self _) (fun p hp => by injection hp with hp; rw [← hp])
      · have b2 : (z == 2) = false := beq_no hz2
        by_cases hz1 : z = 1
        · subst hz1
          have HRD2 := Lib.hid (show res = if isT (ws.drop (k + 1)) lpS = true then callR t (rdC nmB m (ws.drop (k + 2))) else some (varE t, ws.drop (k + 1)) by rw [HRD.out, if_neg (by omega), if_pos rfl])
          have TL := (TT1 w3 HX3.out.cu).out
          unfold lpS at TL
          replace TL := Lib.hid TL
          clear HRD hz2 TT1 BAD
          go_wp2_with fail
          (with_reducible refine Calls.mono TL.out ?_)
          rintro ee w4 ⟨rfl, hm4, hc4⟩
          have e1 : isT (ws.drop (k + 1)) ⟨#[40]⟩ = isT (ws.drop (k + 1)) lpS := rfl
          rw [e1] at hc4 ⊢
          have HM4 := Lib.hid (HM3.out.trans hm4)
          have HX4 := Lib.hid (HX3.out.mv hm4 hc4)
          have HR4 := Lib.hid (HR3.out.mv hm4 hlt)
          have i1 := (hm4.1.cell (o := 1) hlt2 hlx).trans j1
          have hs4 := hm4.1.below.size
          clear TL hm4 hc4 e1 HM3 HX3 HR3
          cases hb2 : isT (ws.drop (k + 1)) lpS
          · rw [hb2] at HX4 HRD2
            have hres := Lib.hid (show res = some (varE t, ws.drop (k + 1)) from HRD2.out)
            have HC4 := Lib.hid (show Cu w4 R A cap ws (k + 1) from HX4.out.cu)
            obtain ⟨c0, c1, c2', c3⟩ := HR4.out.c
            have f0 := HR4.out.f 0
            have f1 := HR4.out.f 1
            have f2 := HR4.out.f 2
            have f3 := HR4.out.f 3
            clear hb2 HRD2 HG HLL
            go_wp2_with fail
            refine bodyPost_ret (v := .tuple #[.agg #[.int .i64 2, .int .i64 0, .string t, .slice none 0 0], .bool true]) (by simp [results, Tryz.results67, go_sem, c0, c1, c2', c3]) rfl ?_
            rw [hres.out]
            exact pret_store (res := some (varE t, ws.drop (k + 1))) (e := varE t) (A' := none) (c := 0) (lo := w.heap.size + 1) hlt HM4.out HC4.out (fun p hp => by injection hp with hp; rw [← hp]) (.inl rfl) (Nat.lt_succ_self _) (fun p hp => by injection hp with hp; rw [← hp])
          · rw [hb2] at HX4 HRD2
            obtain ⟨hk2, _⟩ := isT_lt hb2
            have hres := Lib.hid (show res = callR t (rdC nmB m (ws.drop (k + 2))) from HRD2.out)
            have L5 := Lib.hid (HLL.out t w4 hk2 HX4.out (HG.out w4 HM4.out))
            clear hb2 HRD2 HG HLL HX4
            generalize callR t (rdC nmB m (ws.drop (k + 2))) = rr at *
            obtain rfl := hres.out
            go_wp2_with fail
            (with_reducible refine Calls.mono L5.out ?_)
            rintro ee w5 ⟨hm5, ⟨k5, hc5, hd5⟩, x, A5, c5, rfl, hp5, hx⟩
            unfold exV
            have hs5 := hm5.1.below.size
            have HP5 := Lib.hid (PdD.wide (lo' := w.heap.size + 1) hp5 (by omega) (Nat.le_refl _))
            have R5 := HR4.out.mv hm5 hlt
            have HF := Lib.hid (pret_store (c := c5) hlt (HM4.out.trans hm5) hc5 hd5 HP5.out (Nat.lt_succ_self _) hx)
            obtain ⟨c0, c1, c2', c3⟩ := R5.c
            have f0 := R5.f 0
            have f1 := R5.f 1
            have f2 := R5.f 2
            have f3 := R5.f 3
            clear L5 hm5 hc5 hd5 hp5 hx HP5 R5 HR4 HM4 hres
            generalize res.isSome = bb at *
            go_wp2_with fail
            refine bodyPost_ret (v := .tuple #[.agg #[.int .i64 x.op, .int .i64 x.n, .string x.name, .slice A5 x.kids.length c5], .bool bb]) (by simp [results, Tryz.results67, go_sem, c0, c1, c2', c3]) rfl ?_
            exact HF.out
        · have b1 : (z == 1) = false := beq_no hz1
          have hres := Lib.hid (show res = none by rw [HRD.out, if_neg hz2, if_neg hz1])
          have HC3 := Lib.hid HX3.out.cu
          obtain ⟨c0, c1, c2', c3⟩ := HR3.out.c
          have f0 := HR3.out.f 0
          have f1 := HR3.out.f 1
          have f2 := HR3.out.f 2
          have f3 := HR3.out.f 3
          clear HRD hz1 hz2 TT1 HG HLL HX3 HR3
          go_wp2_with fail
          refine bodyPost_ret (v := .tuple #[.agg #[.int .i64 0, .int .i64 0, .string ⟨#[]⟩, .slice none 0 0], .bool false]) (by simp [results, Tryz.results67, go_sem, c0, c1, c2', c3]) rfl ?_
          exact BAD.out w3 HM3.out HC3.out hres.out
    · have HRD := Lib.hid (show rdW nmB (m + 1) (ws.drop k) = none by rw [List.drop_eq_nil_of_le (by omega)]; rfl)
      have TK := Lib.hid (take_no R cap k A ws w1 HC2.out hkl)
      clear hb HC2 HX1 HEE TT HV HX2 HLL HG
      generalize rdW nmB (m + 1) (ws.drop k) = res at *
      go_wp2_with fail
      (with_reducible refine Calls.mono TK.out ?_)
      rintro ee w2 ⟨rfl, hm2, hc2⟩
      have hs2 := hm2.1.below.size
      have hlt2 : R < w2.heap.size := by omega
      have hal := (Below.refl w2.heap.size w2).alloc (Nat.le_refl _) (.cells #[.int .i64 0, .string ⟨#[]⟩] 76)
      have j0 : (w2.alloc (.cells #[.int .i64 0, .string ⟨#[]⟩] 76)).cell? ⟨w2.heap.size, 0, none⟩ = some (.int .i64 0) := alloc_cell w2 #[.int .i64 0, .string ⟨#[]⟩] 76 (0, 0) 0
      have R2 := HR1.out.mv hm2 hlt
      have R3 := R2.below hal R2.lt
      have HM3 := Lib.hid ((HM1.out.trans hm2).trans (Mv.of_below hal hlt2))
      have HC3 := Lib.hid (hc2.below hal)
      obtain ⟨c0, c1, c2', c3⟩ := R3.c
      have f0 := R3.f 0
      have f1 := R3.f 1
      have f2 := R3.f 2
      have f3 := R3.f 3
      clear TK hm2 hc2 hal R2 R3 HM1 HR1
      go_upto_region 7 with (fail)
      generalize w2.alloc (.cells #[.int .i64 0, .string ⟨#[]⟩] 76) = w3 at *
      go_wp2_with fail
      refine bodyPost_ret (v := .tuple #[.agg #[.int .i64 0, .int .i64 0, .string ⟨#[]⟩, .slice none 0 0], .bool false]) (by simp [results, Tryz.results67, go_sem, c0, c1, c2', c3]) rfl ?_
      rw [HRD.out]
      exact pret_store (res := none) (e := E.none) (A' := none) (c := 0) (lo := w.heap.size + 1) hlt HM3.out HC3.out (fun p hp => by cases hp) (.inl rfl) (Nat.lt_succ_self _) (fun p hp => by cases hp)
  · rw [hb] at HX1
    obtain ⟨hkl, htx⟩ := isT_lt hb
    have HRD := Lib.hid (show rdW nmB (m + 1) (ws.drop k) = (rdL nmB m 1 (ws.drop (k + 1))).bind fun p => if isT p.2 rpS = true then some (p.1, p.2.tail) else none by
      rw [List.drop_eq_getElem_cons hkl, rdW_eq, if_pos htx])
    have HX2 := Lib.hid (show XR w1 R A cap ws (k + 1) from HX1.out)
    have E1 := Lib.hid (HEE.out w1 HX2.out (HG.out w1 HM1.out))
    have HLS := Lib.hid (fun e r => (rd_less nmB m).L 1 (ws.drop (k + 1)) e r (by omega))
    clear hb htx HX1 HX2 HEE HLL HG
    generalize rdW nmB (m + 1) (ws.drop k) = res at *
    generalize rdL nmB m 1 (ws.drop (k + 1)) = r1 at *
    go_wp2_with fail
    (with_reducible refine Calls.mono E1.out ?_)
    rintro ee w2 ⟨hm2, ⟨k2, hc2, hd2⟩, x, A2, cc, rfl, hp2, hx⟩
    unfold exV
    have hal := (Below.refl w2.heap.size w2).alloc (Nat.le_refl _) (.cells #[.int .i64 x.op, .int .i64 x.n, .string x.name, .slice A2 x.kids.length cc] 24)
    have b0 := alloc_cell w2 #[.int .i64 x.op, .int .i64 x.n, .string x.name, .slice A2 x.kids.length cc] 24 (0, 0) 0
    have b1 := alloc_cell w2 #[.int .i64 x.op, .int .i64 x.n, .string x.name, .slice A2 x.kids.length cc] 24 (0, 0) 1
    have b2 := alloc_cell w2 #[.int .i64 x.op, .int .i64 x.n, .string x.name, .slice A2 x.kids.length cc] 24 (0, 0) 2
    have b3 := alloc_cell w2 #[.int .i64 x.op, .int .i64 x.n, .string x.name, .slice A2 x.kids.length cc] 24 (0, 0) 3
    replace b0 : (w2.alloc (.cells #[.int .i64 x.op, .int .i64 x.n, .string x.name, .slice A2 x.kids.length cc] 24)).cell? ⟨w2.heap.size, 0, none⟩ = some (.int .i64 x.op) := b0
    replace b1 : (w2.alloc (.cells #[.int .i64 x.op, .int .i64 x.n, .string x.name, .slice A2 x.kids.length cc] 24)).cell? ⟨w2.heap.size, 1, none⟩ = some (.int .i64 x.n) := b1
    replace b2 : (w2.alloc (.cells #[.int .i64 x.op, .int .i64 x.n, .string x.name, .slice A2 x.kids.length cc] 24)).cell? ⟨w2.heap.size, 2, none⟩ = some (.string x.name) := b2
    replace b3 : (w2.alloc (.cells #[.int .i64 x.op, .int .i64 x.n, .string x.name, .slice A2 x.kids.length cc] 24)).cell? ⟨w2.heap.size, 3, none⟩ = some (.slice A2 x.kids.length cc) := b3
    have hs2 := hm2.1.below.size
    have hlt2 : R < w2.heap.size := by omega
    have hlx : w2.heap.size < (w2.alloc (.cells #[.int .i64 x.op, .int .i64 x.n, .string x.name, .slice A2 x.kids.length cc] 24)).heap.size := by rw [World.size_alloc]; omega
    have R2 := HR1.out.mv hm2 hlt
    have HR3 := Lib.hid (R2.below hal R2.lt)
    have HM3 := Lib.hid ((HM1.out.trans hm2).trans (Mv.of_below hal hlt2))
    have HC3 := Lib.hid (hc2.below hal)
    have HP3 := Lib.hid (PdD.later hp2 hal (Nat.le_refl _) hal.size)
    have hs3 := hal.size
    have HXE := Lib.hid hx
    have HD2 := Lib.hid hd2
    have hk2le := hc2.le
    clear E1 hm2 hc2 hd2 hp2 hx hal HR1 HM1 R2
    go_upto_region 3 with (fail)
    generalize w2.alloc (.cells #[.int .i64 x.op, .int .i64 x.n, .string x.name, .slice A2 x.kids.length cc] 24) = w3 at *
    rcases hr1 : r1 with _ | ⟨x', r⟩
    · have hres := Lib.hid (show res = none by rw [HRD.out, hr1]; rfl)
      have e0 : (none : Option (E × List W)).isSome = false := rfl
      subst hr1
      rw [e0]
      obtain ⟨c0, c1, c2', c3⟩ := HR3.out.c
      have f0 := HR3.out.f 0
      have f1 := HR3.out.f 1
      have f2 := HR3.out.f 2
      have f3 := HR3.out.f 3
      clear e0 HRD HLS HXE HD2 HP3 TT
      go_wp2_with fail
      refine bodyPost_ret (v := .tuple #[.agg #[.int .i64 0, .int .i64 0, .string ⟨#[]⟩, .slice none 0 0], .bool false]) (by simp [results, Tryz.results67, go_sem, c0, c1, c2', c3]) rfl ?_
      rw [hres.out]
      exact pret_store (res := none) (e := E.none) (A' := none) (c := 0) (lo := w.heap.size + 1) hlt HM3.out HC3.out (fun p hp => by cases hp) (.inl rfl) (Nat.lt_succ_self _) (fun p hp => by cases hp)
    · obtain ⟨a1, a2, _, _⟩ := HLS.out _ _ hr1
      obtain ⟨k3, q1, q2, q3, q4⟩ := suf_place a1 a2
      obtain rfl : x = x' := HXE.out _ hr1
      have hd := HD2.out _ hr1
      dsimp only at hd
      have hk3 : k2 = k3 := by
        have h1 : (ws.drop k2).length = (ws.drop k3).length := by rw [hd, q3]
        rw [List.length_drop, List.length_drop] at h1
        omega
      subst hk3
      subst hr1
      have e0 : (some (x, r) : Option (E × List W)).isSome = true := rfl
      rw [e0]
      have HRD2 := Lib.hid (show res = if isT (ws.drop k2) rpS = true then some (x, ws.drop (k2 + 1)) else none by
        rw [HRD.out, ← tail_drop, ← q3]; rfl)
      have TR := (TT rpS k2 w3 HC3.out).out
      unfold rpS at TR
      replace TR := Lib.hid TR
      clear e0 HRD HLS HXE HD2 a1 a2 q3 q4 hd TT
      go_wp2_with fail
      (with_reducible refine Calls.mono TR.out ?_)
      rintro ee w4 ⟨rfl, hm4, hc4⟩
      have e1 : isT (ws.drop k2) ⟨#[41]⟩ = isT (ws.drop k2) rpS := rfl
      rw [e1] at hc4 ⊢
      have HM4 := Lib.hid (HM3.out.trans hm4)
      have R4 := HR3.out.mv hm4 hlt
      have d0 := (hm4.1.cell (o := 0) hlt2 hlx).trans b0
      have d1 := (hm4.1.cell (o := 1) hlt2 hlx).trans b1
      have d2 := (hm4.1.cell (o := 2) hlt2 hlx).trans b2
      have d3 := (hm4.1.cell (o := 3) hlt2 hlx).trans b3
      have HP4 := Lib.hid (PdD.wide (lo' := w.heap.size + 1) (hi' := w4.heap.size) (HP3.out.mv hm4 (by omega) (Nat.le_refl _)) (by omega) hm4.1.below.size)
      have HC4 := Lib.hid hc4
      obtain ⟨c0, c1, c2', c3⟩ := R4.c
      have f0 := R4.f 0
      have f1 := R4.f 1
      have f2 := R4.f 2
      have f3 := R4.f 3
      clear TR hm4 hc4 e1 HM3 HR3 HP3 HC3 R4 b0 b1 b2 b3
      cases hb2 : isT (ws.drop k2) rpS
      · rw [hb2] at HC4 HRD2
        have hres := Lib.hid (show res = none from HRD2.out)
        clear hb2 HRD2
        go_wp2_with fail
        refine bodyPost_ret (v := .tuple #[.agg #[.int .i64 0, .int .i64 0, .string ⟨#[]⟩, .slice none 0 0], .bool false]) (by simp [results, Tryz.results67, go_sem, c0, c1, c2', c3]) rfl ?_
        rw [hres.out]
        exact pret_store (res := none) (e := E.none) (A' := none) (c := 0) (lo := w.heap.size + 1) hlt HM4.out HC4.out (fun p hp => by cases hp) (.inl rfl) (Nat.lt_succ_self _) (fun p hp => by cases hp)
      · rw [hb2] at HC4 HRD2
        have hres := Lib.hid (show res = some (x, ws.drop (k2 + 1)) from HRD2.out)
        have HC5 := Lib.hid (show Cu w4 R A cap ws (k2 + 1) from HC4.out)
        clear hb2 HRD2 HC4
        go_wp2_with fail
        refine bodyPost_ret (v := .tuple #[.agg #[.int .i64 x.op, .int .i64 x.n, .string x.name, .slice A2 x.kids.length cc], .bool true]) (by simp [results, Tryz.results67, go_sem, c0, c1, c2', c3]) rfl ?_
        rw [hres.out]
        exact pret_store (res := some (x, ws.drop (k2 + 1))) (e := x) hlt HM4.out HC5.out (fun p hp => by injection hp with hp; rw [← hp]) HP4.out (Nat.lt_succ_self _) (fun p hp => by injection hp with hp; rw [← hp])
end Go.Proofs.YtkhcfhhejmkikaaGreatDoor

namespace Go.Proofs.YtkhcfhhejmkikaaGreatDoor
open Go.RowKit
set_option maxRecDepth 100000

structure Imp (R cap : Nat) (A : Option Addr) (ws : List W) (m : Nat) : Prop where
  L : ∀ (l k : Nat) (W : World), 1 ≤ l → l ≤ 4 → 10 * (ws.length - k) + 10 ≤ m + l → XR W R A cap ws k → Rts R W → Calls Tryz.prog 62 #[.pointer (some ⟨R + 1, 0, none⟩), .pointer (some ⟨R + 1 + l, 0, none⟩)] W (PRet R cap A ws (rdL nmB m l (ws.drop k)) W)
  T : ∀ (k : Nat) (W : World), 10 * (ws.length - k) + 4 ≤ m → XR W R A cap ws k → Rts R W → Calls Tryz.prog 64 #[.pointer (some ⟨R + 1, 0, none⟩)] W (PRet R cap A ws (rdT nmB m (ws.drop k)) W)
  Wh : ∀ (k : Nat) (W : World), 10 * (ws.length - k) + 3 ≤ m → XR W R A cap ws k → Rts R W → Calls Tryz.prog 66 #[.pointer (some ⟨R + 1, 0, none⟩)] W (PRet R cap A ws (rdW nmB m (ws.drop k)) W)
theorem Imp.X {R cap : Nat} {A : Option Addr} {ws : List W} {m : Nat} (h : Imp R cap A ws m) (k : Nat) (W : World) (hf : 10 * (ws.length - k) + 10 ≤ m + 1) (hX : XR W R A cap ws k) (G : Rts R W) :
    Calls Tryz.prog 29 #[.pointer (some ⟨R, 0, none⟩)] W (PRet R cap A ws (rdL nmB m 1 (ws.drop k)) W) :=
  readExpr_of R cap k A ws W hX G _ (fun W' h1 h2 => h.L 1 k W' (Nat.le_refl _) (by omega) hf h1 h2)
/-- The next level. -/
theorem Imp.up {R cap : Nat} {A : Option Addr} {ws : List W} {m : Nat} (ih : ∀ m', m' ≤ m → Imp R cap A ws m') (k : Nat) (W : World) (hf : 10 * (ws.length - k) + 10 ≤ m + 5) (hX : XR W R A cap ws k) (G : Rts R W) :
    Calls Tryz.prog 64 #[.pointer (some ⟨R + 1, 0, none⟩)] W (PRet R cap A ws (rdL nmB m 5 (ws.drop k)) W) := by
  obtain ⟨q, rfl⟩ : ∃ q, m = q + 1 := ⟨m - 1, by omega⟩
  have e : rdL nmB (q + 1) 5 (ws.drop k) = rdT nmB q (ws.drop k) := by
    show (if 4 < 5 then rdT nmB q (ws.drop k) else _) = _
    rw [if_pos (by omega)]
  rw [e]
  exact (ih q (by omega)).T k W (by omega) hX G
theorem imp_all (R cap : Nat) (A : Option Addr) (ws : List W) (hn : ws.length ≤ 600) (hvs : ∀ x ∈ ws, x.2.size ≤ 4) : ∀ m, ∀ m', m' ≤ m → Imp R cap A ws m'
  | 0 => fun m' hm' => by
    obtain rfl : m' = 0 := by omega
    exact ⟨fun l k W h1 h2 h3 _ _ => by omega, fun k W h _ _ => by omega, fun k W h _ _ => by omega⟩
  | m + 1 => fun m' hm' => by
    have ih := imp_all R cap A ws hn hvs m
    by_cases h : m' ≤ m
    · exact ih m' h
    · obtain rfl : m' = m + 1 := by omega
      refine ⟨fun l k W h1 h2 h3 hX G => ?_, fun k W h1 hX G => ?_, fun k W h1 hX G => ?_⟩
      · refine close1 R cap k A ws W hX G _ l h1 h2 (fun W' hX' G' => ?_)
        have hl : l = 1 ∨ l = 2 ∨ l = 3 ∨ l = 4 := by omega
        rcases hl with rfl | rfl | rfl | rfl
        · exact readBetween_1 R cap k m A ws W' hn hX' (by omega) G' (fun m2 k2 W2 q1 q2 q3 q4 => (ih m2 q1).L 2 k2 W2 (by omega) (by omega) (by omega) q3 q4)
        · exact readBetween_2 R cap k m A ws W' hn hX' (by omega) G' (fun m2 k2 W2 q1 q2 q3 q4 => (ih m2 q1).L 3 k2 W2 (by omega) (by omega) (by omega) q3 q4)
        · exact readBetween_3 R cap k m A ws W' hn hX' (by omega) G' (fun m2 k2 W2 q1 q2 q3 q4 => (ih m2 q1).L 4 k2 W2 (by omega) (by omega) (by omega) q3 q4)
        · exact readBetween_4 R cap k m A ws W' hn hX' (by omega) G' (fun m2 k2 W2 q1 q2 q3 q4 => Imp.up (fun m3 h3 => ih m3 (by omega)) k2 W2 (by omega) q3 q4)
      · refine close2 R cap k A ws W hX G _ (fun W' hX' G' => ?_)
        exact readAhead_of R cap k m A ws W' hn hX' G' (fun k2 W2 q1 q2 q3 => (ih m (Nat.le_refl _)).T k2 W2 (by have := q2.cu.le; omega) q2 q3) (fun W2 q2 q3 => (ih m (Nat.le_refl _)).Wh k W2 (by omega) q2 q3)
      · refine close3 R cap k A ws W hX G _ (fun W' hX' G' => ?_)
        refine readWhole_of R cap k m A ws W' hn hvs hX' G' (fun W2 q2 q3 => (ih m (Nat.le_refl _)).X (k + 1) W2 (by have := q2.cu.le; omega) q2 q3) (fun s W2 hk2 q2 q3 => ?_)
        refine readCall_of R cap (k + 2) A ws s W2 q2 q3 _ (fun W3 q4 q5 => ?_)
        obtain ⟨q, rfl⟩ : ∃ q, m = q + 1 := ⟨m - 1, by omega⟩
        exact readListed_of R cap (k + 2) q A ws W3 hn q4 (by omega) q5 (fun m4 k4 W4 q6 q7 q8 q9 => (ih m4 (by omega)).X k4 W4 q7 q8 q9)
end Go.Proofs.YtkhcfhhejmkikaaGreatDoor

namespace Go.Proofs.YtkhcfhhejmkikaaGreatDoor
open Go.RowKit
set_option maxRecDepth 100000
set_option maxHeartbeats 2000000 in
theorem l2Read_high (A : Option Addr) (cap : Nat) (ws : List W) (m : Nat) (IH : ModR A cap ws m) (k : Nat) (w : World) (hk : k ≤ ws.length) (hm : 10 * (ws.length - k) + 4 ≤ m) (hW : Words w w.heap.size A ws) :
    Calls Tryz.prog 27 #[.slice A ws.length cap, .int .i64 (k : Int), .int .i64 5] w (RdM ws.length (rdT nmB m (ws.drop k)) w) := by
  have hb0 := (Below.refl w.heap.size w).alloc (Nat.le_refl _) (.cells #[.int .i64 0, .int .i64 0, .string ⟨#[]⟩, .slice none 0 0] 24)
  have R0 := Lib.hid (Res.new w (.int .i64 0) (.int .i64 0) (.string ⟨#[]⟩) (.slice none 0 0) 24)
  have hl0 : w.heap.size < (w.alloc (.cells #[.int .i64 0, .int .i64 0, .string ⟨#[]⟩, .slice none 0 0] 24)).heap.size := by rw [World.size_alloc]; omega
  have T := Lib.hid (IH.T k _ hk hm ((hW.below hb0).more hb0.size))
  clear IH hW
  generalize rdT nmB m (ws.drop k) = res at *
  go_enter Tryz.func27, Tryz.ntmps27
  go_wp2_with fail
  (with_reducible refine Calls.mono T.out ?_)
  rintro ee w2 ⟨e, A2, c2, rfl, hp, hb2, he⟩
  unfold exV
  have R2 := R0.out.below hb2 hl0
  obtain ⟨c0, c1, c2', c3⟩ := R2.c
  have f0 := R2.f 0
  have f1 := R2.f 1
  have f2 := R2.f 2
  have f3 := R2.f 3
  have HB2 := Lib.hid (hb0.trans (hb2.mono hb0.size))
  have HP := Lib.hid (PdS.wide (lo' := w.heap.size + 1) hp (by rw [World.size_alloc]; omega) (Nat.le_refl _))
  have HE := Lib.hid he
  have HZ := Lib.hid hb2.size
  clear hb0 R0 T hp hb2 he R2 hl0
  go_wp2_with fail
  refine bodyPost_ret (v := .tuple #[.agg #[.int .i64 e.op, .int .i64 e.n, .string e.name, .slice A2 e.kids.length c2], .int .i64 (nextI ws.length res)]) (by simp [results, Tryz.results27, go_sem, c0, c1, c2', c3]) rfl ⟨e, A2, c2, rfl, ?_, below_four HB2.out (Nat.le_refl _) _ _ _ _, HE.out⟩
  have h := PdS.four' HP.out (Nat.lt_succ_self _) (.int .i64 e.op) (.int .i64 e.n) (.string e.name) (.slice A2 e.kids.length c2)
  exact h.wide (Nat.le_succ _) (by simp)

set_option maxHeartbeats 8000000 in
theorem l2Read_low (A : Option Addr) (cap : Nat) (ws : List W) (m : Nat) (hn : ws.length ≤ 600) (IH : ModU A cap ws m) (l k : Nat) (w : World) (hl1 : 1 ≤ l) (hl : l ≤ 4) (hk : k ≤ ws.length) (hm : 10 * (ws.length - k) + 10 ≤ m + 1 + l) (hW : Words w w.heap.size A ws) :
    Calls Tryz.prog 27 #[.slice A ws.length cap, .int .i64 (k : Int), .int .i64 (l : Int)] w (RdM ws.length (rdL nmB (m + 1) l (ws.drop k)) w) := by
  have hb0 := (Below.refl w.heap.size w).alloc (Nat.le_refl _) (.cells #[.int .i64 0, .int .i64 0, .string ⟨#[]⟩, .slice none 0 0] 24)
  have R0 := Lib.hid (Res.new w (.int .i64 0) (.int .i64 0) (.string ⟨#[]⟩) (.slice none 0 0) 24)
  have hl0 : w.heap.size < (w.alloc (.cells #[.int .i64 0, .int .i64 0, .string ⟨#[]⟩, .slice none 0 0] 24)).heap.size := by rw [World.size_alloc]; omega
  have hz0 : (w.alloc (.cells #[.int .i64 0, .int .i64 0, .string ⟨#[]⟩, .slice none 0 0] 24)).heap.size = w.heap.size + 1 := World.size_alloc _ _
  have HW := Lib.hid hW
  have L1 := Lib.hid ((IH m (Nat.le_refl _)).L (l + 1) k (w.alloc (.cells #[.int .i64 0, .int .i64 0, .string ⟨#[]⟩, .slice none 0 0] 24)) (by omega) (by omega) hk (by omega) ((hW.below hb0).more hb0.size))
  have HI := Lib.hid IH
  have HR := Lib.hid (show rdL nmB (m + 1) l (ws.drop k) = (rdL nmB m (l + 1) (ws.drop k)).bind fun p => rdO nmB m l p.1 p.2 by
    show (if 4 < l then rdT nmB m (ws.drop k) else (rdL nmB m (l + 1) (ws.drop k)).bind fun p => rdO nmB m l p.1 p.2) = _
    rw [if_neg (by omega)])
  have HLS := Lib.hid (fun e r => (rd_less nmB m).L (l + 1) (ws.drop k) e r (by omega))
  clear IH hW
  generalize rdL nmB (m + 1) l (ws.drop k) = res at *
  generalize rdL nmB m (l + 1) (ws.drop k) = r1 at *
  have hcl : ((l + 1 : Nat) : Int) = (l : Int) + 1 := by omega
  replace L1 := L1.out
  rw [hcl] at L1
  replace L1 := Lib.hid L1
  clear hcl
  go_enter Tryz.func27, Tryz.ntmps27
  go_wp2_with fail
  (with_reducible refine Calls.mono L1.out ?_)
  rintro ee w2 ⟨e, A2, c2, rfl, hp, hb2, he⟩
  unfold exV
  have R2 := R0.out.below hb2 hl0
  have hb02 := hb0.trans (hb2.mono hb0.size)
  have hal := (Below.refl w2.heap.size w2).alloc (Nat.le_refl _) (.cells #[.int .i64 e.op, .int .i64 e.n, .string e.name, .slice A2 e.kids.length c2] 24)
  have X3 := Res.new w2 (.int .i64 e.op) (.int .i64 e.n) (.string e.name) (.slice A2 e.kids.length c2) 24
  have hX : w.heap.size < w2.heap.size := R2.lt
  have HS := Lib.hid (show LRel w ws.length ws l m w2.heap.size res (nextI ws.length r1) (w2.alloc (.cells #[.int .i64 e.op, .int .i64 e.n, .string e.name, .slice A2 e.kids.length c2] 24)) e A2 c2 from by
    refine ⟨X3, ?_, R2.below hal R2.lt, hb02.trans (hal.mono hb02.size), ?_⟩
    · exact (PdS.later hp hal (Nat.le_refl _) (Nat.le_refl _)).toX (.inr (Nat.le_refl _)) (by omega) hal.size
    · have hr := HR.out
      cases r1 with
      | none => exact .inl ⟨rfl, hr⟩
      | some p =>
        obtain ⟨x, r⟩ := p
        obtain rfl : e = x := he _ rfl
        obtain ⟨a1, a2, _, _⟩ := HLS.out _ _ rfl
        obtain ⟨k2, q1, q2, q3, q4⟩ := suf_place a1 a2
        refine .inr ⟨k2, m, ?_, q2, Nat.le_refl _, by omega, ?_⟩
        · show ((ws.length - r.length : Nat) : Int) = _; omega
        · rw [← q3]; exact hr.symm)
  generalize nextI ws.length r1 = z0 at *
  clear hb0 R0 L1 hp hb2 he R2 hl0 HR HLS hb02 hal X3 hz0
  go_wp2_with fail
  generalize w2.heap.size = X at *
  go_loopw [9] (fun i wr => ∃ (z : Int) (e : E) (A2 : Option Addr) (c2 : Nat), i = .int .i64 z ∧ LRel w ws.length ws l m X res z wr e A2 c2) (fun i _ => mz ws.length (intOf i))
  case atStart => exact ⟨z0, e, A2, c2, rfl, HS.out⟩
  case round =>
    clear HS
    obtain ⟨z, e, A2, c2, rfl, hX3, hP3, hR3, hB3, hcase⟩ := hrel
    have HX := Lib.hid hX3
    have HP := Lib.hid hP3
    have HRr := Lib.hid hR3
    have HB := Lib.hid hB3
    obtain ⟨x0, x1, x2, x3⟩ := hX3.c
    clear hX3 hP3 hR3 hB3
    have fin : ∀ (zz : Int), (zz = nextI ws.length res) → (∀ p, res = some p → e = p.1) → ∀ ww, ww = ((((wr.setCell ⟨w.heap.size, 0, none⟩ (.int .i64 e.op)).setCell ⟨w.heap.size, 1, none⟩ (.int .i64 e.n)).setCell ⟨w.heap.size, 2, none⟩ (.string e.name)).setCell ⟨w.heap.size, 3, none⟩ (.slice A2 e.kids.length c2)) →
        RdM ws.length res w (.returned (.tuple #[exV e A2 c2, .int .i64 zz])) ww := by
      intro zz hzz he ww hww
      subst hww
      refine ⟨e, A2, c2, by rw [hzz], ?_, below_four HB.out (Nat.le_refl _) _ _ _ _, he⟩
      have h := PdS.four' HP.out.fromX (Nat.lt_succ_self _) (.int .i64 e.op) (.int .i64 e.n) (.string e.name) (.slice A2 e.kids.length c2)
      exact h.wide (Nat.le_succ _) (by simp)
    have FIN := Lib.hid fin
    clear fin
    rcases hcase with ⟨rfl, hres⟩ | ⟨k2, m2, rfl, hk2, hm2, ha2, hO⟩
    · have hres2 := Lib.hid hres
      have hm1 : ¬ (0 : Int) ≤ -1 := by decide
      obtain ⟨c0, c1, c2', c3⟩ := HRr.out.c
      have f0 := HRr.out.f 0
      have f1 := HRr.out.f 1
      have f2 := HRr.out.f 2
      have f3 := HRr.out.f 3
      clear hres
      go_wp2_with fail
      refine bodyPost_ret (v := .tuple #[.agg #[.int .i64 e.op, .int .i64 e.n, .string e.name, .slice A2 e.kids.length c2], .int .i64 (-1)]) (by simp [results, Tryz.results27, go_sem, c0, c1, c2', c3]) rfl ?_
      exact FIN.out _ (by rw [hres2.out]; rfl) (fun p hp => by rw [hres2.out] at hp; cases hp) _ rfl
    · have OP := Lib.hid (l2Op_any A ws cap k2 l wr ((HW.out.below HB.out).more HB.out.size) hn (by omega))
      have HO := Lib.hid hO
      clear hO
      cases hop : opAt l (ws.drop k2) with
      | none =>
        rw [opN_none hop] at OP
        have hres := Lib.hid (rdO_none HO.out (by omega) hop)
        clear hop
        obtain ⟨c0, c1, c2', c3⟩ := HRr.out.c
        have f0 := HRr.out.f 0
        have f1 := HRr.out.f 1
        have f2 := HRr.out.f 2
        have f3 := HRr.out.f 3
        go_wp2_with fail
        (with_reducible refine Calls.mono OP.out ?_)
        rintro ee w4 ⟨rfl, rfl⟩
        go_wp2_with fail
        refine bodyPost_ret (v := .tuple #[.agg #[.int .i64 e.op, .int .i64 e.n, .string e.name, .slice A2 e.kids.length c2], .int .i64 (k2 : Int)]) (by simp [results, Tryz.results27, go_sem, c0, c1, c2', c3]) rfl ?_
        exact FIN.out _ (by rw [hres.out, nextI_at _ hk2]) (fun p hp => by rw [hres.out] at hp; injection hp with hp; rw [← hp]) _ rfl
      | some op =>
        obtain ⟨hkl, ho3, ho10⟩ := pos_of_op hop
        rw [opN_some hop] at OP
        have HOP := Lib.hid hop
        have qop : (0 : Int) < op := by omega
        have L2 := (HI.out (m2 - 1) (by omega)).L (l + 1) (k2 + 1) wr (by omega) (by omega) hkl (by omega) ((HW.out.below HB.out).more HB.out.size)
        rw [show ((k2 + 1 : Nat) : Int) = (k2 : Int) + 1 by omega, show ((l + 1 : Nat) : Int) = (l : Int) + 1 by omega] at L2
        replace L2 := Lib.hid L2
        clear hop FIN
        go_wp2_with fail
        (with_reducible refine Calls.mono OP.out ?_)
        rintro ee w4 ⟨rfl, rfl⟩
        go_wp2_with fail
        (with_reducible refine Calls.mono OP.out ?_)
        rintro ee w4 ⟨rfl, rfl⟩
        go_wp2_with fail
        (with_reducible refine Calls.mono L2.out ?_)
        rintro ee w5 ⟨y, A5, c5, rfl, hp5, hb5, hy⟩
        unfold exV
        have NX := Lib.hid (lrel_next (x := e) (y := y) rfl hk2 hm2 ha2 HO.out HOP.out rfl hl hy)
        generalize nextI ws.length (rdL nmB (m2 - 1) (l + 1) (ws.drop (k2 + 1))) = z5 at *
        have hXl := HX.out.lt
        have X5 := HX.out.below hb5 hXl
        have R5 := HRr.out.below hb5 HRr.out.lt
        have P5 := HP.out.belowX hb5
        have B5 := HB.out.trans (hb5.mono HB.out.size)
        have Q5 := hp5.toX (X := X) (lo' := w.heap.size + 1) (.inl hXl) (by have := HRr.out.lt; omega) (Nat.le_refl _)
        -- the box of y
        have hal := (Below.refl w5.heap.size w5).alloc (Nat.le_refl _) (.cells #[.int .i64 y.op, .int .i64 y.n, .string y.name, .slice A5 y.kids.length c5] 24)
        have y0 := alloc_cell w5 #[.int .i64 y.op, .int .i64 y.n, .string y.name, .slice A5 y.kids.length c5] 24 (0, 0) 0
        have y1 := alloc_cell w5 #[.int .i64 y.op, .int .i64 y.n, .string y.name, .slice A5 y.kids.length c5] 24 (0, 0) 1
        have y2 := alloc_cell w5 #[.int .i64 y.op, .int .i64 y.n, .string y.name, .slice A5 y.kids.length c5] 24 (0, 0) 2
        have y3 := alloc_cell w5 #[.int .i64 y.op, .int .i64 y.n, .string y.name, .slice A5 y.kids.length c5] 24 (0, 0) 3
        replace y0 : (w5.alloc (.cells #[.int .i64 y.op, .int .i64 y.n, .string y.name, .slice A5 y.kids.length c5] 24)).cell? ⟨w5.heap.size, 0, none⟩ = some (.int .i64 y.op) := y0
        replace y1 : (w5.alloc (.cells #[.int .i64 y.op, .int .i64 y.n, .string y.name, .slice A5 y.kids.length c5] 24)).cell? ⟨w5.heap.size, 1, none⟩ = some (.int .i64 y.n) := y1
        replace y2 : (w5.alloc (.cells #[.int .i64 y.op, .int .i64 y.n, .string y.name, .slice A5 y.kids.length c5] 24)).cell? ⟨w5.heap.size, 2, none⟩ = some (.string y.name) := y2
        replace y3 : (w5.alloc (.cells #[.int .i64 y.op, .int .i64 y.n, .string y.name, .slice A5 y.kids.length c5] 24)).cell? ⟨w5.heap.size, 3, none⟩ = some (.slice A5 y.kids.length c5) := y3
        have X6 := X5.below hal X5.lt
        have R6 := Lib.hid (R5.below hal R5.lt)
        have P6 := Lib.hid (P5.belowX hal)
        have Q6 := Lib.hid (Q5.belowX hal)
        have B6 := Lib.hid (B5.trans (hal.mono B5.size))
        obtain ⟨x0', x1', x2', x3'⟩ := X6.c
        have g0 := X6.f 0
        have g1 := X6.f 1
        have g2 := X6.f 2
        have g3 := X6.f 3
        have HX6 := Lib.hid X6
        have hX5 : X < w5.heap.size := X5.lt
        clear hp5 hb5 X5 R5 P5 B5 Q5 hal X6 x0 x1 x2 x3 HX HP HRr HB OP L2
        go_upto_region 7 with (fail)
        generalize w5.alloc (.cells #[.int .i64 y.op, .int .i64 y.n, .string y.name, .slice A5 y.kids.length c5] 24) = w6 at *
        have hlz : X < w6.heap.size := HX6.out.lt
        have hw5 : w.heap.size + 1 ≤ X := hX
        -- the row of both
        have hal2 := (Below.refl w6.heap.size w6).alloc (Nat.le_refl _) (.cells #[.int .i64 e.op, .int .i64 e.n, .string e.name, .slice A2 e.kids.length c2, .int .i64 y.op, .int .i64 y.n, .string y.name, .slice A5 y.kids.length c5] 24)
        have X7 := Lib.hid (HX6.out.below hal2 hlz)
        have t0 := X7.out.f 0
        have t1 := X7.out.f 1
        have t2 := X7.out.f 2
        have t3 := X7.out.f 3
        obtain ⟨s0, s1, s2, s3⟩ := X7.out.c
        clear hal2
        go_wp2_with fail
        go_roundw
        case rel =>
          have X8 := res_four HX6.out (.int .i64 op) (.int .i64 0) (.string ⟨#[]⟩) (.slice (some ⟨w6.heap.size, 0, none⟩) 2 2)
          have R8 := res_four_off R6.out (b' := X) (by omega) (.int .i64 op) (.int .i64 0) (.string ⟨#[]⟩) (.slice (some ⟨w6.heap.size, 0, none⟩) 2 2)
          have P8 := pd_fourX P6.out (.int .i64 op) (.int .i64 0) (.string ⟨#[]⟩) (.slice (some ⟨w6.heap.size, 0, none⟩) 2 2)
          have Q8 := pd_fourX Q6.out (.int .i64 op) (.int .i64 0) (.string ⟨#[]⟩) (.slice (some ⟨w6.heap.size, 0, none⟩) 2 2)
          have B8 := below_four B6.out (show w.heap.size ≤ X by omega) (.int .i64 op) (.int .i64 0) (.string ⟨#[]⟩) (.slice (some ⟨w6.heap.size, 0, none⟩) 2 2)
          have hz8 : ((((w6.setCell ⟨X, 0, none⟩ (.int .i64 op)).setCell ⟨X, 1, none⟩ (.int .i64 0)).setCell ⟨X, 2, none⟩ (.string ⟨#[]⟩)).setCell ⟨X, 3, none⟩ (.slice (some ⟨w6.heap.size, 0, none⟩) 2 2)).heap.size = w6.heap.size := by simp
          generalize ((((w6.setCell ⟨X, 0, none⟩ (.int .i64 op)).setCell ⟨X, 1, none⟩ (.int .i64 0)).setCell ⟨X, 2, none⟩ (.string ⟨#[]⟩)).setCell ⟨X, 3, none⟩ (.slice (some ⟨w6.heap.size, 0, none⟩) 2 2)) = w8 at *
          exact rel_round hz8 hw5 hlz X8 R8 P8 Q8 B8 (by
            rcases NX.out with h | ⟨k3, m3, h1, _, h2, h3, h4, h5⟩
            · exact .inl h
            · exact .inr ⟨k3, m3, h1, h2, h3, h4, h5⟩)
        case measure =>
          show mz ws.length z5 < mz ws.length (k2 : Int)
          rcases NX.out with ⟨h, _⟩ | ⟨k3, m3, h1, hlt, h2, _⟩
          · rw [h, mz_neg, mz_nat]; omega
          · rw [h1, mz_nat, mz_nat]; omega

end Go.Proofs.YtkhcfhhejmkikaaGreatDoor

namespace Go.Proofs.YtkhcfhhejmkikaaGreatDoor
open Go.RowKit
set_option maxRecDepth 100000
theorem mod_all (A : Option Addr) (cap : Nat) (ws : List W) (hn : ws.length ≤ 600) (hvs : ∀ x ∈ ws, x.2.size ≤ 4) : ∀ m, ModU A cap ws m
  | 0 => fun m' hm' => by
    obtain rfl : m' = 0 := by omega
    exact ⟨fun l k w h1 h2 h3 h4 _ => by omega, fun k w _ h _ => by omega, fun k w _ h _ => by omega⟩
  | m + 1 => fun m' hm' => by
    have ih := mod_all A cap ws hn hvs m
    by_cases h : m' ≤ m
    · exact ih m' h
    · obtain rfl : m' = m + 1 := by omega
      refine ⟨fun l k w h1 h2 h3 h4 hW => ?_, fun k w h1 h2 hW => l2Tight_of A cap ws m hn hvs ih k w h1 h2 hW, fun k w h1 h2 hW => l2List_of A cap ws m hn ih k w h1 h2 hW⟩
      by_cases h5 : l = 5
      · subst h5
        have e : rdL nmB (m + 1) 5 (ws.drop k) = rdT nmB m (ws.drop k) := by
          show (if 4 < 5 then rdT nmB m (ws.drop k) else _) = _
          rw [if_pos (by omega)]
        rw [e]
        exact l2Read_high A cap ws m (ih m (Nat.le_refl _)) k w h3 (by omega) hW
      · exact l2Read_low A cap ws m hn ih l k w h1 (by omega) h3 (by omega) hW

end Go.Proofs.YtkhcfhhejmkikaaGreatDoor

namespace Go.Proofs.YtkhcfhhejmkikaaGreatDoor
open Go.RowKit
set_option maxRecDepth 100000

/-- What ReadExpr leaves. -/
def RdX (p : E × Bool) (w : World) (ee : Ending) (w' : World) : Prop :=
  ∃ (A : Option Addr) (c : Nat), ee = .returned (.tuple #[exV p.1 A c, .bool p.2]) ∧ PdS w' (Between w' w.heap.size w'.heap.size) p.1.kids A ∧ Below w.heap.size w w'
theorem readW_cases (ws : List W) : (rdL nmB 6100 1 ws = none ∧ readW ws = (E.none, false)) ∨ ∃ e r, rdL nmB 6100 1 ws = some (e, r) ∧ readW ws = if r = [] ∧ validE e = true then (e, true) else (E.none, false) := by
  cases h : rdL nmB 6100 1 ws with
  | none => exact .inl ⟨rfl, by unfold readW; rw [h]⟩
  | some p =>
    obtain ⟨e, r⟩ := p
    refine .inr ⟨e, r, rfl, ?_⟩
    unfold readW
    rw [h]
    cases r with
    | nil =>
      dsimp only
      cases validE e <;> simp
    | cons _ _ => simp
theorem readF_no {s : ByteArray} {ws : List W} (h : cutRes s = (ws, false)) : readF s = (E.none, false) := by unfold readF; rw [h]; rfl
theorem readF_ok {s : ByteArray} {ws : List W} (h : cutRes s = (ws, true)) : readF s = readW ws := by unfold readF; rw [h]; rfl
theorem words_four {s : ByteArray} {ws : List W} {b : Bool} (h : cutRes s = (ws, b)) : ∀ x ∈ ws, x.2.size ≤ 4 := by
  have hv := cutRes_valid s
  rw [h] at hv
  exact fun x hx => validB_size (hv x hx)
set_option maxHeartbeats 8000000 in
theorem specReadExpr_any (s : ByteArray) (w : World) (hs : s.size ≤ 1048576) : Calls Tryz.prog 9 #[.string s] w (RdX (readF s) w) := by
  have hb0 := (Below.refl w.heap.size w).alloc (Nat.le_refl _) (.cells #[.int .i64 0, .int .i64 0, .string ⟨#[]⟩, .slice none 0 0] 24)
  have R0 := Lib.hid (Res.new w (.int .i64 0) (.int .i64 0) (.string ⟨#[]⟩) (.slice none 0 0) 24)
  have hz0 : (w.alloc (.cells #[.int .i64 0, .int .i64 0, .string ⟨#[]⟩, .slice none 0 0] 24)).heap.size = w.heap.size + 1 := World.size_alloc _ _
  have HB0 := Lib.hid hb0
  have SC := Lib.hid (specCutWords_any s (w.alloc (.cells #[.int .i64 0, .int .i64 0, .string ⟨#[]⟩, .slice none 0 0] 24)) hs)
  have hlen := cutRes_len s
  cases hcr : cutRes s with
  | mk ws ok =>
  rw [hcr] at SC hlen
  have hlen' : ws.length ≤ 600 := hlen
  have HV := Lib.hid (words_four hcr)
  have none_ : ∀ W ww, Below w.heap.size w W → ww = ((((W.setCell ⟨w.heap.size, 0, none⟩ (.int .i64 0)).setCell ⟨w.heap.size, 1, none⟩ (.int .i64 0)).setCell ⟨w.heap.size, 2, none⟩ (.string ⟨#[]⟩)).setCell ⟨w.heap.size, 3, none⟩ (.slice none 0 0)) → RdX (E.none, false) w (.returned (.tuple #[.agg #[.int .i64 0, .int .i64 0, .string ⟨#[]⟩, .slice none 0 0], .bool false])) ww := by
    intro W ww hW hww
    subst hww
    exact ⟨none, 0, rfl, .inl rfl, below_four hW (Nat.le_refl _) _ _ _ _⟩
  have NN := Lib.hid none_
  clear none_ hlen hb0
  cases ok
  · rw [readF_no hcr]
    clear hcr
    go_enter Tryz.func9, Tryz.ntmps9
    go_wp2_with fail
    (with_reducible refine Calls.mono SC.out ?_)
    rintro ee w1 ⟨⟨v0, rfl, hO1⟩, hb1⟩
    have R1 := R0.out.below hb1 (by omega)
    have HB1 := Lib.hid (HB0.out.trans (hb1.mono HB0.out.size))
    obtain ⟨c0, c1, c2', c3⟩ := R1.c
    have f0 := R1.f 0
    have f1 := R1.f 1
    have f2 := R1.f 2
    have f3 := R1.f 3
    clear SC hO1 R1 R0 hb1 HB0
    go_wp2_with fail
    refine bodyPost_ret (v := .tuple #[.agg #[.int .i64 0, .int .i64 0, .string ⟨#[]⟩, .slice none 0 0], .bool false]) (by simp [results, Tryz.results9, go_sem, c0, c1, c2', c3]) rfl ?_
    exact NN.out _ _ HB1.out rfl
  · rw [readF_ok hcr]
    clear hcr
    have RC := Lib.hid (readW_cases ws)
    have HLS := Lib.hid (fun e r => (rd_less nmB 6100).L 1 ws e r (by omega))
    have HBK := Lib.hid (fun e r => (rd_bulk nmB 6100).L 1 ws e r HV.out)
    go_enter Tryz.func9, Tryz.ntmps9
    go_wp2_with fail
    (with_reducible refine Calls.mono SC.out ?_)
    rintro ee w1 ⟨⟨v0, rfl, hO1⟩, hb1⟩
    obtain ⟨A0, cap0, rfl, hW1⟩ := words_own hO1
    have R1 := Lib.hid (R0.out.below hb1 (by omega))
    have HB1 := Lib.hid (HB0.out.trans (hb1.mono HB0.out.size))
    have L1 := Lib.hid (((mod_all A0 cap0 ws hlen' HV.out 6100) 6100 (Nat.le_refl _)).L 1 0 w1 (by omega) (by omega) (Nat.zero_le _) (by omega) hW1)
    have hs1 := hb1.size
    clear SC hO1 R0 hb1 HB0 hW1 HV
    rw [List.drop_zero] at L1
    go_wp2_with fail
    (with_reducible refine Calls.mono L1.out ?_)
    rintro ee w2 ⟨x, A2, cc, rfl, hp2, hb2, hx⟩
    unfold exV
    have hal := (Below.refl w2.heap.size w2).alloc (Nat.le_refl _) (.cells #[.int .i64 x.op, .int .i64 x.n, .string x.name, .slice A2 x.kids.length cc] 24)
    have b0 := alloc_cell w2 #[.int .i64 x.op, .int .i64 x.n, .string x.name, .slice A2 x.kids.length cc] 24 (0, 0) 0
    have b1 := alloc_cell w2 #[.int .i64 x.op, .int .i64 x.n, .string x.name, .slice A2 x.kids.length cc] 24 (0, 0) 1
    have b2 := alloc_cell w2 #[.int .i64 x.op, .int .i64 x.n, .string x.name, .slice A2 x.kids.length cc] 24 (0, 0) 2
    have b3 := alloc_cell w2 #[.int .i64 x.op, .int .i64 x.n, .string x.name, .slice A2 x.kids.length cc] 24 (0, 0) 3
    replace b0 : (w2.alloc (.cells #[.int .i64 x.op, .int .i64 x.n, .string x.name, .slice A2 x.kids.length cc] 24)).cell? ⟨w2.heap.size, 0, none⟩ = some (.int .i64 x.op) := b0
    replace b1 : (w2.alloc (.cells #[.int .i64 x.op, .int .i64 x.n, .string x.name, .slice A2 x.kids.length cc] 24)).cell? ⟨w2.heap.size, 1, none⟩ = some (.int .i64 x.n) := b1
    replace b2 : (w2.alloc (.cells #[.int .i64 x.op, .int .i64 x.n, .string x.name, .slice A2 x.kids.length cc] 24)).cell? ⟨w2.heap.size, 2, none⟩ = some (.string x.name) := b2
    replace b3 : (w2.alloc (.cells #[.int .i64 x.op, .int .i64 x.n, .string x.name, .slice A2 x.kids.length cc] 24)).cell? ⟨w2.heap.size, 3, none⟩ = some (.slice A2 x.kids.length cc) := b3
    have hs2 := hb2.size
    have hs3 : w2.heap.size < (w2.alloc (.cells #[.int .i64 x.op, .int .i64 x.n, .string x.name, .slice A2 x.kids.length cc] 24)).heap.size := by rw [World.size_alloc]; omega
    have hba := hb2.trans (hal.mono hb2.size)
    have HR3 := Lib.hid (R1.out.below hba (by omega))
    have HB3 := Lib.hid (HB1.out.trans (hba.mono HB1.out.size))
    have HP3 := Lib.hid (PdS.later hp2 hal (Nat.le_refl _) hal.size)
    have HX := Lib.hid hx
    clear L1 hp2 hb2 hx hal hba R1 HB1
    go_upto_region 5 with (fail)
    generalize w2.alloc (.cells #[.int .i64 x.op, .int .i64 x.n, .string x.name, .slice A2 x.kids.length cc] 24) = w3 at *
    have hw1 : w.heap.size < w1.heap.size := by omega
    rcases RC.out with ⟨h1, h2⟩ | ⟨e, r, h1, h2⟩
    · rw [h1]
      have H2 := Lib.hid h2
      have e1 : nextI ws.length (none : Option (E × List W)) = -1 := rfl
      rw [e1]
      have q1 : ((-1 : Int) != (ws.length : Int)) = true := by rw [bne, beq_no (by omega)]; rfl
      obtain ⟨c0, c1, c2', c3⟩ := HR3.out.c
      have f0 := HR3.out.f 0
      have f1 := HR3.out.f 1
      have f2 := HR3.out.f 2
      have f3 := HR3.out.f 3
      clear h1 h2 e1 RC HLS HBK HX
      go_wp2_with fail
      refine bodyPost_ret (v := .tuple #[.agg #[.int .i64 0, .int .i64 0, .string ⟨#[]⟩, .slice none 0 0], .bool false]) (by simp [results, Tryz.results9, go_sem, c0, c1, c2', c3]) rfl ?_
      rw [H2.out]
      exact NN.out _ _ HB3.out rfl
    · obtain rfl : x = e := HX.out _ h1
      obtain ⟨a1, a2, _, _⟩ := HLS.out _ _ h1
      have hbk := (HBK.out _ _ h1).2
      have e1 : nextI ws.length (some (x, r)) = ((ws.length - r.length : Nat) : Int) := rfl
      have H2 := Lib.hid h2
      rw [h1, e1]
      clear h1 h2 e1 RC HLS HBK HX
      by_cases hr : r = []
      · subst hr
        have q0 : ws.length - ([] : List W).length = ws.length := rfl
        have q1 : ((ws.length : Int) != (ws.length : Int)) = false := by simp
        have V3 := Lib.hid (specExprValid_any x A2 cc w3 (HP3.out.rd fun _ h => h.2.1) (by simp at hbk; omega))
        unfold exV at V3
        rw [q0]
        clear q0 a1 a2 hbk
        cases hv : validE x
        · rw [hv] at V3
          have H3 := Lib.hid (show readW ws = (E.none, false) by rw [H2.out, hv, if_neg (by simp)])
          clear hv
          go_wp2_with fail
          (with_reducible refine Calls.mono V3.out ?_)
          rintro ee w4 ⟨rfl, hb4⟩
          have R4 := HR3.out.below hb4 HR3.out.lt
          have HB4 := Lib.hid (HB3.out.trans (hb4.mono HB3.out.size))
          obtain ⟨c0, c1, c2', c3⟩ := R4.c
          have f0 := R4.f 0
          have f1 := R4.f 1
          have f2 := R4.f 2
          have f3 := R4.f 3
          clear V3 hb4 R4
          go_wp2_with fail
          refine bodyPost_ret (v := .tuple #[.agg #[.int .i64 0, .int .i64 0, .string ⟨#[]⟩, .slice none 0 0], .bool false]) (by simp [results, Tryz.results9, go_sem, c0, c1, c2', c3]) rfl ?_
          rw [H3.out]
          exact NN.out _ _ HB4.out rfl
        · rw [hv] at V3
          have H3 := Lib.hid (show readW ws = (x, true) by rw [H2.out, hv, if_pos ⟨rfl, rfl⟩])
          clear hv
          go_wp2_with fail
          (with_reducible refine Calls.mono V3.out ?_)
          rintro ee w4 ⟨rfl, hb4⟩
          have R4 := HR3.out.below hb4 HR3.out.lt
          have HB4 := Lib.hid (HB3.out.trans (hb4.mono HB3.out.size))
          have HP4 := Lib.hid (PdS.later HP3.out hb4 (Nat.le_refl _) hb4.size)
          have k0 := (hb4.cell (p := ⟨w2.heap.size, 0, none⟩) hs3).trans b0
          have k1 := (hb4.cell (p := ⟨w2.heap.size, 1, none⟩) hs3).trans b1
          have k2 := (hb4.cell (p := ⟨w2.heap.size, 2, none⟩) hs3).trans b2
          have k3 := (hb4.cell (p := ⟨w2.heap.size, 3, none⟩) hs3).trans b3
          obtain ⟨c0, c1, c2', c3⟩ := R4.c
          have f0 := R4.f 0
          have f1 := R4.f 1
          have f2 := R4.f 2
          have f3 := R4.f 3
          clear V3 hb4 R4 b0 b1 b2 b3
          go_wp2_with fail
          refine bodyPost_ret (v := .tuple #[.agg #[.int .i64 x.op, .int .i64 x.n, .string x.name, .slice A2 x.kids.length cc], .bool true]) (by simp [results, Tryz.results9, go_sem, c0, c1, c2', c3]) rfl ?_
          rw [H3.out]
          refine ⟨A2, cc, rfl, ?_, below_four HB4.out (Nat.le_refl _) _ _ _ _⟩
          have h := PdS.four' HP4.out hw1 (.int .i64 x.op) (.int .i64 x.n) (.string x.name) (.slice A2 x.kids.length cc)
          exact h.wide (by omega) (by simp)
      · have hrl : 0 < r.length := List.length_pos_iff.2 hr
        have hrl2 := a1.length_le
        have q1 : (((ws.length - r.length : Nat) : Int) != (ws.length : Int)) = true := by rw [bne, beq_no (by omega)]; rfl
        have H3 := Lib.hid (show readW ws = (E.none, false) by rw [H2.out, if_neg (fun h => hr h.1)])
        obtain ⟨c0, c1, c2', c3⟩ := HR3.out.c
        have f0 := HR3.out.f 0
        have f1 := HR3.out.f 1
        have f2 := HR3.out.f 2
        have f3 := HR3.out.f 3
        clear a1 a2 hbk hr hrl hrl2
        generalize ws.length - r.length = k2 at *
        go_wp2_with fail
        refine bodyPost_ret (v := .tuple #[.agg #[.int .i64 0, .int .i64 0, .string ⟨#[]⟩, .slice none 0 0], .bool false]) (by simp [results, Tryz.results9, go_sem, c0, c1, c2', c3]) rfl ?_
        rw [H3.out]
        exact NN.out _ _ HB3.out rfl
end Go.Proofs.YtkhcfhhejmkikaaGreatDoor

namespace Go.Proofs.YtkhcfhhejmkikaaGreatDoor
open Go.RowKit
set_option maxRecDepth 100000

/-- What the program's ReadExpr leaves. -/
def RdD (p : E × Bool) (w : World) (ee : Ending) (w' : World) : Prop :=
  ∃ (A : Option Addr) (c : Nat), ee = .returned (.tuple #[exV p.1 A c, .bool p.2]) ∧ PdD w' (Between w' w.heap.size w'.heap.size) p.1.kids A ∧ Below w.heap.size w w'
set_option maxHeartbeats 8000000 in
theorem implReadExpr_any (s : ByteArray) (w : World) (hs : s.size ≤ 1048576) (T : Tabs w) (N : NTabs w) (S : Sgn w) : Calls Tryz.prog 10 #[.string s] w (RdD (readF s) w) := by
  have hb0 := (Below.refl w.heap.size w).alloc (Nat.le_refl _) (.cells #[.int .i64 0, .int .i64 0, .string ⟨#[]⟩, .slice none 0 0] 24)
  have R0 := Lib.hid (Res.new w (.int .i64 0) (.int .i64 0) (.string ⟨#[]⟩) (.slice none 0 0) 24)
  have hz0 : (w.alloc (.cells #[.int .i64 0, .int .i64 0, .string ⟨#[]⟩, .slice none 0 0] 24)).heap.size = w.heap.size + 1 := World.size_alloc _ _
  have HB0 := Lib.hid hb0
  have SC := Lib.hid (implCutWords_any s (w.alloc (.cells #[.int .i64 0, .int .i64 0, .string ⟨#[]⟩, .slice none 0 0] 24)) hs (T.below hb0) (N.below hb0))
  have hlen := cutRes_len s
  cases hcr : cutRes s with
  | mk ws ok =>
  rw [hcr] at SC hlen
  have hlen' : ws.length ≤ 600 := hlen
  have HV := Lib.hid (words_four hcr)
  have none_ : ∀ W ww, Below w.heap.size w W → ww = ((((W.setCell ⟨w.heap.size, 0, none⟩ (.int .i64 0)).setCell ⟨w.heap.size, 1, none⟩ (.int .i64 0)).setCell ⟨w.heap.size, 2, none⟩ (.string ⟨#[]⟩)).setCell ⟨w.heap.size, 3, none⟩ (.slice none 0 0)) → RdD (E.none, false) w (.returned (.tuple #[.agg #[.int .i64 0, .int .i64 0, .string ⟨#[]⟩, .slice none 0 0], .bool false])) ww := by
    intro W ww hW hww
    subst hww
    exact ⟨none, 0, rfl, .inl rfl, below_four hW (Nat.le_refl _) _ _ _ _⟩
  have NN := Lib.hid none_
  have HT := Lib.hid (fun W (h : Below w.heap.size w W) => T.below h)
  have HN := Lib.hid (fun W (h : Below w.heap.size w W) => N.below h)
  have HS := Lib.hid (fun W (h : Below w.heap.size w W) => S.below h)
  clear none_ hlen hb0 T N S
  cases ok
  · rw [readF_no hcr]
    clear hcr
    go_enter Tryz.func10, Tryz.ntmps10
    go_wp2_with fail
    (with_reducible refine Calls.mono SC.out ?_)
    rintro ee w1 ⟨⟨v0, rfl, hO1⟩, hb1⟩
    have R1 := R0.out.below hb1 (by omega)
    have HB1 := Lib.hid (HB0.out.trans (hb1.mono HB0.out.size))
    obtain ⟨c0, c1, c2', c3⟩ := R1.c
    have f0 := R1.f 0
    have f1 := R1.f 1
    have f2 := R1.f 2
    have f3 := R1.f 3
    clear SC hO1 R1 R0 hb1 HB0 HT HN HS
    go_wp2_with fail
    refine bodyPost_ret (v := .tuple #[.agg #[.int .i64 0, .int .i64 0, .string ⟨#[]⟩, .slice none 0 0], .bool false]) (by simp [results, Tryz.results10, go_sem, c0, c1, c2', c3]) rfl ?_
    exact NN.out _ _ HB1.out rfl
  · rw [readF_ok hcr]
    clear hcr
    have RC := Lib.hid (readW_cases ws)
    have HLS := Lib.hid (fun e r => (rd_less nmB 6100).L 1 ws e r (by omega))
    have HBK := Lib.hid (fun e r => (rd_bulk nmB 6100).L 1 ws e r HV.out)
    go_enter Tryz.func10, Tryz.ntmps10
    go_wp2_with fail
    (with_reducible refine Calls.mono SC.out ?_)
    rintro ee w1 ⟨⟨v0, rfl, hO1⟩, hb1⟩
    obtain ⟨A0, cap0, rfl, hW1⟩ := words_own hO1
    have R1 := Lib.hid (R0.out.below hb1 (by omega))
    have HB1 := Lib.hid (HB0.out.trans (hb1.mono HB0.out.size))
    have hs1 := hb1.size
    have NR := Lib.hid (newExprReader_any A0 cap0 ws w1 hW1 (HS.out w1 HB1.out) (HN.out w1 HB1.out))
    clear SC hO1 R0 hb1 HB0 hW1
    go_wp2_with fail
    (with_reducible refine Calls.mono NR.out ?_)
    rintro ee w2 ⟨rfl, hX2, hR2, hb2⟩
    have L2 := Lib.hid ((imp_all w1.heap.size cap0 A0 ws hlen' HV.out 6100 6100 (Nat.le_refl _)).X 0 w2 (by omega) hX2 hR2)
    rw [List.drop_zero] at L2
    have hs2 := hb2.size
    have hR1w : w1.heap.size < w2.heap.size := hX2.cu.lt
    have R2 := Lib.hid (R1.out.below hb2 (by omega))
    have HB2 := Lib.hid (HB1.out.trans (hb2.mono HB1.out.size))
    have hw1 : w.heap.size < w1.heap.size := by omega
    clear NR hX2 hR2 hb2 R1 HB1 HV
    go_wp2_with fail
    (with_reducible refine Calls.mono L2.out ?_)
    rintro ee w3 ⟨hm3, ⟨k3, hc3, hd3⟩, x, A2, cc, rfl, hp3, hx⟩
    unfold exV
    have hal := (Below.refl w3.heap.size w3).alloc (Nat.le_refl _) (.cells #[.int .i64 x.op, .int .i64 x.n, .string x.name, .slice A2 x.kids.length cc] 24)
    have b0 := alloc_cell w3 #[.int .i64 x.op, .int .i64 x.n, .string x.name, .slice A2 x.kids.length cc] 24 (0, 0) 0
    have b1 := alloc_cell w3 #[.int .i64 x.op, .int .i64 x.n, .string x.name, .slice A2 x.kids.length cc] 24 (0, 0) 1
    have b2 := alloc_cell w3 #[.int .i64 x.op, .int .i64 x.n, .string x.name, .slice A2 x.kids.length cc] 24 (0, 0) 2
    have b3 := alloc_cell w3 #[.int .i64 x.op, .int .i64 x.n, .string x.name, .slice A2 x.kids.length cc] 24 (0, 0) 3
    replace b0 : (w3.alloc (.cells #[.int .i64 x.op, .int .i64 x.n, .string x.name, .slice A2 x.kids.length cc] 24)).cell? ⟨w3.heap.size, 0, none⟩ = some (.int .i64 x.op) := b0
    replace b1 : (w3.alloc (.cells #[.int .i64 x.op, .int .i64 x.n, .string x.name, .slice A2 x.kids.length cc] 24)).cell? ⟨w3.heap.size, 1, none⟩ = some (.int .i64 x.n) := b1
    replace b2 : (w3.alloc (.cells #[.int .i64 x.op, .int .i64 x.n, .string x.name, .slice A2 x.kids.length cc] 24)).cell? ⟨w3.heap.size, 2, none⟩ = some (.string x.name) := b2
    replace b3 : (w3.alloc (.cells #[.int .i64 x.op, .int .i64 x.n, .string x.name, .slice A2 x.kids.length cc] 24)).cell? ⟨w3.heap.size, 3, none⟩ = some (.slice A2 x.kids.length cc) := b3
    have hs3 := hm3.1.below.size
    have hs4 : w3.heap.size < (w3.alloc (.cells #[.int .i64 x.op, .int .i64 x.n, .string x.name, .slice A2 x.kids.length cc] 24)).heap.size := by rw [World.size_alloc]; omega
    have HB3 := Lib.hid (HB2.out.trans (hm3.1.below.mono (by omega : w.heap.size ≤ w1.heap.size)))
    have R3 := R2.out.below hm3.1.below hw1
    have HR4 := Lib.hid (R3.below hal R3.lt)
    have HB4 := Lib.hid (HB3.out.trans (hal.mono (by omega)))
    have HP4 := Lib.hid (PdD.later hp3 hal (Nat.le_refl _) hal.size)
    have HC4 := Lib.hid (hc3.below hal)
    have hk3 := hc3.le
    have HX := Lib.hid hx
    have HD := Lib.hid hd3
    clear L2 hm3 hc3 hd3 hp3 hx hal R2 R3 HB2 HB3
    go_upto_region 6 with (fail)
    generalize w3.alloc (.cells #[.int .i64 x.op, .int .i64 x.n, .string x.name, .slice A2 x.kids.length cc] 24) = w4 at *
    rcases RC.out with ⟨h1, h2⟩ | ⟨e, r, h1, h2⟩
    · have H2 := Lib.hid h2
      rw [h1]
      have e0 : (none : Option (E × List W)).isSome = false := rfl
      rw [e0]
      clear h1 h2 e0 RC HLS HBK HX HD HP4 HC4 HT HN HS
      obtain ⟨c0, c1, c2', c3⟩ := HR4.out.c
      have f0 := HR4.out.f 0
      have f1 := HR4.out.f 1
      have f2 := HR4.out.f 2
      have f3 := HR4.out.f 3
      go_wp2_with fail
      refine bodyPost_ret (v := .tuple #[.agg #[.int .i64 0, .int .i64 0, .string ⟨#[]⟩, .slice none 0 0], .bool false]) (by simp [results, Tryz.results10, go_sem, c0, c1, c2', c3]) rfl ?_
      rw [H2.out]
      exact NN.out _ _ HB4.out rfl
    · obtain rfl : x = e := HX.out _ h1
      obtain ⟨a1, a2, _, _⟩ := HLS.out _ _ h1
      have hbk := (HBK.out _ _ h1).2
      have hd := HD.out _ h1
      dsimp only at hd
      have H2 := Lib.hid h2
      rw [h1]
      have e0 : (some (x, r) : Option (E × List W)).isSome = true := rfl
      rw [e0]
      have AE := Lib.hid (atEnd_any w1.heap.size cap0 k3 A0 ws w4 HC4.out)
      clear h1 h2 e0 RC HLS HBK HX HD
      by_cases hr : r = []
      · subst hr
        have hk : k3 = ws.length := by
          have := List.drop_eq_nil_iff.1 hd
          omega
        rw [decide_eq_true hk] at AE
        clear hd hk hk3 a1 a2
        go_wp2_with fail
        (with_reducible refine Calls.mono AE.out ?_)
        rintro ee w5 ⟨rfl, rfl⟩
        have hb5 : Below w4.heap.size w4 w4.drew := (Below.refl _ _).drew
        have V5 := Lib.hid (implExprValid_any x A2 cc w4.drew ((PdD.later HP4.out hb5 (Nat.le_refl _) hb5.size).rd fun _ h => h.2.1) (by simp at hbk; omega) (HT.out _ (HB4.out.trans (hb5.mono HB4.out.size))) (HS.out _ (HB4.out.trans (hb5.mono HB4.out.size))))
        unfold exV at V5
        clear AE hbk HT HN HS HC4
        cases hv : validE x
        · rw [hv] at V5
          have H3 := Lib.hid (show readW ws = (E.none, false) by rw [H2.out, hv, if_neg (by simp)])
          clear hv
          go_wp2_with fail
          (with_reducible refine Calls.mono V5.out ?_)
          rintro ee w6 ⟨rfl, hb6⟩
          have hb7 := hb5.trans (hb6.mono hb5.size)
          have R6 := HR4.out.below hb7 HR4.out.lt
          have HB6 := Lib.hid (HB4.out.trans (hb7.mono HB4.out.size))
          have HR6 := Lib.hid R6
          clear V5 hb6 hb7 hb5 R6 b0 b1 b2 b3
          obtain ⟨c0, c1, c2', c3⟩ := HR6.out.c
          have f0 := HR6.out.f 0
          have f1 := HR6.out.f 1
          have f2 := HR6.out.f 2
          have f3 := HR6.out.f 3
          go_wp2_with fail
          refine bodyPost_ret (v := .tuple #[.agg #[.int .i64 0, .int .i64 0, .string ⟨#[]⟩, .slice none 0 0], .bool false]) (by simp [results, Tryz.results10, go_sem, c0, c1, c2', c3]) rfl ?_
          rw [H3.out]
          exact NN.out _ _ HB6.out rfl
        · rw [hv] at V5
          have H3 := Lib.hid (show readW ws = (x, true) by rw [H2.out, hv]; simp)
          clear hv
          go_wp2_with fail
          (with_reducible refine Calls.mono V5.out ?_)
          rintro ee w6 ⟨rfl, hb6⟩
          have hb7 := hb5.trans (hb6.mono hb5.size)
          have R6 := HR4.out.below hb7 HR4.out.lt
          have HB6 := Lib.hid (HB4.out.trans (hb7.mono HB4.out.size))
          have HP6 := Lib.hid (PdD.later HP4.out hb7 (Nat.le_refl _) hb7.size)
          have k0 := (hb7.cell (p := ⟨w3.heap.size, 0, none⟩) hs4).trans b0
          have k1 := (hb7.cell (p := ⟨w3.heap.size, 1, none⟩) hs4).trans b1
          have k2 := (hb7.cell (p := ⟨w3.heap.size, 2, none⟩) hs4).trans b2
          have k3' := (hb7.cell (p := ⟨w3.heap.size, 3, none⟩) hs4).trans b3
          obtain ⟨c0, c1, c2', c3⟩ := R6.c
          have f0 := R6.f 0
          have f1 := R6.f 1
          have f2 := R6.f 2
          have f3 := R6.f 3
          clear V5 hb6 hb7 hb5 R6 b0 b1 b2 b3
          go_wp2_with fail
          refine bodyPost_ret (v := .tuple #[.agg #[.int .i64 x.op, .int .i64 x.n, .string x.name, .slice A2 x.kids.length cc], .bool true]) (by simp [results, Tryz.results10, go_sem, c0, c1, c2', c3]) rfl ?_
          rw [H3.out]
          refine ⟨A2, cc, rfl, ?_, below_four HB6.out (Nat.le_refl _) _ _ _ _⟩
          have h := PdD.four' HP6.out (show w.heap.size < w2.heap.size by omega) (.int .i64 x.op) (.int .i64 x.n) (.string x.name) (.slice A2 x.kids.length cc)
          exact h.wide (by omega) (by simp)
      · have hk : ¬ k3 = ws.length := by
          intro hk
          apply hr
          rw [← hd, hk, List.drop_length]
        rw [decide_eq_false hk] at AE
        have H3 := Lib.hid (show readW ws = (E.none, false) by rw [H2.out, if_neg (fun h => hr h.1)])
        clear hd hk hk3 a1 a2 hbk hr HT HN HS HP4 HC4
        go_wp2_with fail
        (with_reducible refine Calls.mono AE.out ?_)
        rintro ee w5 ⟨rfl, rfl⟩
        have hb5 : Below w4.heap.size w4 w4.drew := (Below.refl _ _).drew
        have HR5 := Lib.hid (HR4.out.below hb5 HR4.out.lt)
        have HB5 := Lib.hid (HB4.out.trans (hb5.mono HB4.out.size))
        clear AE hb5 b0 b1 b2 b3
        obtain ⟨c0, c1, c2', c3⟩ := HR4.out.c
        have f0 := HR4.out.f 0
        have f1 := HR4.out.f 1
        have f2 := HR4.out.f 2
        have f3 := HR4.out.f 3
        go_wp2_with fail
        refine bodyPost_ret (v := .tuple #[.agg #[.int .i64 0, .int .i64 0, .string ⟨#[]⟩, .slice none 0 0], .bool false]) (by simp [results, Tryz.results10, go_sem, c0, c1, c2', c3]) rfl ?_
        rw [H3.out]
        exact NN.out _ _ HB5.out rfl
end Go.Proofs.YtkhcfhhejmkikaaGreatDoor
