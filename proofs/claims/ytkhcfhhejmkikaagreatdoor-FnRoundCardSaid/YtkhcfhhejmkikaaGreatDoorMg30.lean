/-
  The model's reader of expressions: l2List.
-/
import Derived.Test.YtkhcfhhejmkikaaGreatDoorMg25
import Derived.Test.YtkhcfhhejmkikaaGreatDoorMg26
import Derived.Test.YtkhcfhhejmkikaaGreatDoorMg29
namespace Go.Proofs.YtkhcfhhejmkikaaGreatDoor
open Go.RowKit
set_option maxRecDepth 100000

theorem took5_none {ws : List W} (h : ∀ j : Int, 3 ≤ j → j < 13 → hitO 5 ws j = false) : aheadAt ws = none := by
  have h11 : isT ws (sgnS 11) = false := by have := h 11 (by omega) (by omega); unfold hitO at this; rw [show lvl 11 = 5 from rfl] at this; simpa using this
  have h12 : isT ws (sgnS 12) = false := by have := h 12 (by omega) (by omega); unfold hitO at this; rw [show lvl 12 = 5 from rfl] at this; simpa using this
  rw [aheadAt_eq, h11, h12, if_neg (by simp), if_neg (by simp)]
theorem took5_some {ws : List W} {op : Int} (h3 : 3 ≤ op) (h12 : op ≤ 12) (h : hitO 5 ws op = true) (hno : ∀ j : Int, 3 ≤ j → j < op → hitO 5 ws j = false) : aheadAt ws = some op := by
  unfold hitO at h
  rw [Bool.and_eq_true, decide_eq_true_eq] at h
  have hop : op = 11 ∨ op = 12 := by
    by_cases e : op = 11 ∨ op = 12
    · exact e
    · exfalso
      have h1 := h.1
      unfold lvl at h1
      (repeat' split at h1) <;> omega
  rcases hop with rfl | rfl
  · rw [aheadAt_eq, h.2, if_pos rfl]
  · have h11 : isT ws (sgnS 11) = false := by have := hno 11 (by omega) (by omega); unfold hitO at this; rw [show lvl 11 = 5 from rfl] at this; simpa using this
    rw [aheadAt_eq, h11, h.2, if_neg (by simp), if_pos rfl]
set_option maxHeartbeats 8000000 in
theorem readAhead_of (R cap k m : Nat) (A : Option Addr) (ws : List W) (w : World) (hn : ws.length ≤ 600) (h : XR w R A cap ws k) (G : Rts R w)
    (HT : ∀ (k' : Nat) (W : World), k < k' → XR W R A cap ws k' → Rts R W → Calls Tryz.prog 64 #[.pointer (some ⟨R + 1, 0, none⟩)] W (PRet R cap A ws (rdT nmB m (ws.drop k')) W))
    (HW : ∀ (W : World), XR W R A cap ws k → Rts R W → Calls Tryz.prog 66 #[.pointer (some ⟨R + 1, 0, none⟩)] W (PRet R cap A ws (rdW nmB m (ws.drop k)) W)) :
    Calls Tryz.prog 65 #[.pointer (some ⟨R, 0, none⟩)] w (PRet R cap A ws (rdT nmB (m + 1) (ws.drop k)) w) := by
  have hb0 := (Below.refl w.heap.size w).alloc (Nat.le_refl _) (.cells #[.int .i64 0, .int .i64 0, .string ⟨#[]⟩, .slice none 0 0] 24)
  have R0 := Lib.hid (Res.new w (.int .i64 0) (.int .i64 0) (.string ⟨#[]⟩) (.slice none 0 0) 24)
  have hz0 : (w.alloc (.cells #[.int .i64 0, .int .i64 0, .string ⟨#[]⟩, .slice none 0 0] 24)).heap.size = w.heap.size + 1 := World.size_alloc _ _
  have X0 := h.below hb0
  have HM0 := Lib.hid (Mv.of_below (R := R) hb0 h.cu.lt)
  have hlt := h.cu.lt
  have hrs := h.sz
  have TO := takeOp_any R cap k 5 A ws _ X0.cu hn (G.mv (Mv.of_below (R := R) hb0 h.cu.lt)).sgn
  rw [show ((5 : Nat) : Int) = 5 from rfl] at TO
  replace TO := Lib.hid TO
  have HX0 := Lib.hid X0
  have HG := Lib.hid (show ∀ W, Mv R w W → Rts R W from fun W hm => G.mv hm)
  have HTT := Lib.hid HT
  have HWW := Lib.hid HW
  clear h X0 hb0 HT HW G
  go_enter Tryz.func65, Tryz.ntmps65
  go_wp2_with fail
  (with_reducible refine Calls.mono TO.out ?_)
  rintro ee w4 hto
  clear TO
  rcases hto with ⟨op, ho3, ho12, rfl, hhit, hno, hm4, hc4⟩ | ⟨rfl, hno, hm4, hc4⟩
  · have HRD := Lib.hid (T_un (m := m) (took5_some ho3 ho12 hhit hno))
    have XR4 := HX0.out.mv hm4 hc4
    have HM4 := Lib.hid (HM0.out.trans hm4)
    have R4 := Lib.hid (R0.out.mv hm4 hlt)
    have C5 := Lib.hid (HTT.out (k + 1) w4 (Nat.lt_succ_self _) XR4 (HG.out w4 HM4.out))
    have d7 := XR4.cl 5 (by omega) (by omega)
    unfold climbV at d7
    rw [if_pos rfl] at d7
    have hs4 := hm4.1.below.size
    clear hhit hno hm4 hc4 R0 HM0 HX0 HTT HWW HG XR4
    generalize rdT nmB (m + 1) (ws.drop k) = res at *
    generalize rdT nmB m (ws.drop (k + 1)) = r1 at *
    go_wp2_with fail
    (with_reducible refine Calls.mono C5.out ?_)
    rintro ee w5 ⟨hm5, ⟨k5, hc5, hd5⟩, x, A5, c5, rfl, hp5, hx⟩
    unfold exV
    have hs5 := hm5.1.below.size
    have HM5 := Lib.hid (HM4.out.trans hm5)
    have R5 := R4.out.mv hm5 hlt
    have hal := (Below.refl w5.heap.size w5).alloc (Nat.le_refl _) (.cells #[.int .i64 x.op, .int .i64 x.n, .string x.name, .slice A5 x.kids.length c5] 24)
    have b0 := alloc_cell w5 #[.int .i64 x.op, .int .i64 x.n, .string x.name, .slice A5 x.kids.length c5] 24 (0, 0) 0
    have b1 := alloc_cell w5 #[.int .i64 x.op, .int .i64 x.n, .string x.name, .slice A5 x.kids.length c5] 24 (0, 0) 1
    have b2 := alloc_cell w5 #[.int .i64 x.op, .int .i64 x.n, .string x.name, .slice A5 x.kids.length c5] 24 (0, 0) 2
    have b3 := alloc_cell w5 #[.int .i64 x.op, .int .i64 x.n, .string x.name, .slice A5 x.kids.length c5] 24 (0, 0) 3
    replace b0 : (w5.alloc (.cells #[.int .i64 x.op, .int .i64 x.n, .string x.name, .slice A5 x.kids.length c5] 24)).cell? ⟨w5.heap.size, 0, none⟩ = some (.int .i64 x.op) := b0
    replace b1 : (w5.alloc (.cells #[.int .i64 x.op, .int .i64 x.n, .string x.name, .slice A5 x.kids.length c5] 24)).cell? ⟨w5.heap.size, 1, none⟩ = some (.int .i64 x.n) := b1
    replace b2 : (w5.alloc (.cells #[.int .i64 x.op, .int .i64 x.n, .string x.name, .slice A5 x.kids.length c5] 24)).cell? ⟨w5.heap.size, 2, none⟩ = some (.string x.name) := b2
    replace b3 : (w5.alloc (.cells #[.int .i64 x.op, .int .i64 x.n, .string x.name, .slice A5 x.kids.length c5] 24)).cell? ⟨w5.heap.size, 3, none⟩ = some (.slice A5 x.kids.length c5) := b3
    have hlt5 : R < w5.heap.size := by omega
    have R6 := Lib.hid (R5.below hal R5.lt)
    have HM6 := Lib.hid (HM5.out.trans (Mv.of_below hal hlt5))
    have HC6 := Lib.hid (hc5.below hal)
    have HP6 := Lib.hid (PdD.later hp5 hal (Nat.le_refl _) hal.size)
    have hs6 := hal.size
    have HX := Lib.hid hx
    have HD := Lib.hid hd5
    clear R4 HM4 C5 hm5 hc5 hd5 hp5 hx R5 hal HM5 d7
    cases r1 with
    | none =>
      have hres := Lib.hid (show res = none from HRD.out)
      clear HRD HX HD HP6
      obtain ⟨c0, c1, c2', c3⟩ := R6.out.c
      have f0 := R6.out.f 0
      have f1 := R6.out.f 1
      have f2 := R6.out.f 2
      have f3 := R6.out.f 3
      go_upto_region 5 with (fail)
      generalize w5.alloc (.cells #[.int .i64 x.op, .int .i64 x.n, .string x.name, .slice A5 x.kids.length c5] 24) = w6 at *
      go_wp2_with fail
      refine bodyPost_ret (v := .tuple #[.agg #[.int .i64 0, .int .i64 0, .string ⟨#[]⟩, .slice none 0 0], .bool false]) (by simp [results, Tryz.results65, go_sem, c0, c1, c2', c3]) rfl ?_
      rw [hres.out]
      exact pret_store (res := none) (e := E.none) (A' := none) (c := 0) (lo := w.heap.size + 1) hlt HM6.out HC6.out (fun p hp => by cases hp) (.inl rfl) (Nat.lt_succ_self _) (fun p hp => by cases hp)
    | some p =>
      obtain ⟨x', r⟩ := p
      obtain rfl : x = x' := HX.out _ rfl
      have hd := HD.out _ rfl
      dsimp only at hd
      have hres := Lib.hid (show res = some (unE op x, ws.drop k5) by rw [hd]; exact HRD.out)
      clear HRD HX HD hd
      go_upto_region 5 with (fail)
      generalize w5.alloc (.cells #[.int .i64 x.op, .int .i64 x.n, .string x.name, .slice A5 x.kids.length c5] 24) = w6 at *
      have hal7 := (Below.refl w6.heap.size w6).alloc (Nat.le_refl _) (.cells #[.int .i64 x.op, .int .i64 x.n, .string x.name, .slice A5 x.kids.length c5] 24)
      have R7 := R6.out.below hal7 R6.out.lt
      have X8 := Lib.hid (res_four R6.out (.int .i64 op) (.int .i64 0) (.string ⟨#[]⟩) (.slice (some ⟨w6.heap.size, 0, none⟩) 1 1))
      have M8 := Lib.hid (HM6.out.four (b := w.heap.size) (Nat.le_refl _) hlt (.int .i64 op) (.int .i64 0) (.string ⟨#[]⟩) (.slice (some ⟨w6.heap.size, 0, none⟩) 1 1))
      have C8 := Lib.hid (HC6.out.four (b := w.heap.size) hlt (.int .i64 op) (.int .i64 0) (.string ⟨#[]⟩) (.slice (some ⟨w6.heap.size, 0, none⟩) 1 1))
      have P8 := Lib.hid (PdD.four' HP6.out (show w.heap.size < w4.heap.size by omega) (.int .i64 op) (.int .i64 0) (.string ⟨#[]⟩) (.slice (some ⟨w6.heap.size, 0, none⟩) 1 1))
      have HZ8 := Lib.hid (show ((((w6.setCell ⟨w.heap.size, 0, none⟩ (.int .i64 op)).setCell ⟨w.heap.size, 1, none⟩ (.int .i64 0)).setCell ⟨w.heap.size, 2, none⟩ (.string ⟨#[]⟩)).setCell ⟨w.heap.size, 3, none⟩ (.slice (some ⟨w6.heap.size, 0, none⟩) 1 1)).heap.size = w6.heap.size by simp)
      obtain ⟨c0, c1, c2', c3⟩ := R7.c
      have f0 := R7.f 0
      have f1 := R7.f 1
      have f2 := R7.f 2
      have f3 := R7.f 3
      have k0 := R6.out.c.1
      have k1 := R6.out.c.2.1
      have k2 := R6.out.c.2.2.1
      have k3 := R6.out.c.2.2.2
      have l0 := R6.out.f 0
      have l1 := R6.out.f 1
      have l2 := R6.out.f 2
      have l3 := R6.out.f 3
      have hwl := R6.out.lt
      clear R7 hal7 HP6 HM6 HC6
      go_wp2_with fail
      clear c0 c1 c2' c3 f0 f1 f2 f3 k0 k1 k2 k3 l0 l1 l2 l3
      generalize ((((w6.setCell ⟨w.heap.size, 0, none⟩ (.int .i64 op)).setCell ⟨w.heap.size, 1, none⟩ (.int .i64 0)).setCell ⟨w.heap.size, 2, none⟩ (.string ⟨#[]⟩)).setCell ⟨w.heap.size, 3, none⟩ (.slice (some ⟨w6.heap.size, 0, none⟩) 1 1)) = w8 at *
      have hal8 := (Below.refl w8.heap.size w8).alloc (Nat.le_refl _) (.cells #[.int .i64 x.op, .int .i64 x.n, .string x.name, .slice A5 x.kids.length c5] 24)
      have R8 := X8.out.below hal8 X8.out.lt
      obtain ⟨c0, c1, c2', c3⟩ := R8.c
      have P9 := pdd_lit (w := w8) (S := Between w8 w4.heap.size w6.heap.size) (S' := Between (w8.alloc (.cells #[.int .i64 x.op, .int .i64 x.n, .string x.name, .slice A5 x.kids.length c5] 24)) w.heap.size (w8.alloc (.cells #[.int .i64 x.op, .int .i64 x.n, .string x.name, .slice A5 x.kids.length c5] 24)).heap.size) (fun _ => 0) [⟨x, A5, c5⟩]
        ⟨by have := HZ8.out; omega, by rw [World.size_alloc]; omega, ⟨_, _, heap_alloc_new _ _⟩⟩ (fun j hj => by (obtain rfl : j = 0 := (by simpa using hj)); exact P8.out.keep (fun _ _ _ => rfl) (fun b h => ⟨h, rfl⟩)) (fun b hb => by have := hb.2.1; have := HZ8.out; omega) (fun b hb => ⟨by have := hb.1; omega, by rw [World.size_alloc]; have := hb.2.1; have := HZ8.out; omega, hb.2.2.below hal8 (by have := hb.2.1; have := HZ8.out; omega)⟩)
      rw [HZ8.out] at P9
      have HP9 := Lib.hid P9
      have hr8 : R < w8.heap.size := by have := HZ8.out; omega
      have HF := Lib.hid (show PRet R cap A ws res w (.returned (.tuple #[.agg #[.int .i64 op, .int .i64 0, .string ⟨#[]⟩, .slice (some ⟨w6.heap.size, 0, none⟩) 1 1], .bool true])) (w8.alloc (.cells #[.int .i64 x.op, .int .i64 x.n, .string x.name, .slice A5 x.kids.length c5] 24)) from by
        rw [hres.out]
        exact ⟨M8.out.trans (Mv.of_below hal8 hr8), ⟨k5, C8.out.below hal8, fun p hp => by injection hp with hp; rw [← hp]⟩, unE op x, some ⟨w6.heap.size, 0, none⟩, 1, rfl, HP9.out, fun p hp => by injection hp with hp; rw [← hp]⟩)
      clear P9 hal8 R8
      refine bodyPost_ret (v := .tuple #[.agg #[.int .i64 op, .int .i64 0, .string ⟨#[]⟩, .slice (some ⟨w6.heap.size, 0, none⟩) 1 1], .bool true]) (by simp [results, Tryz.results65, go_sem, c0, c1, c2', c3]) rfl ?_
      exact HF.out
  · have HRD := Lib.hid (rdT_ahead (nm := nmB) (m := m) (took5_none hno))
    have XR4 := HX0.out.mv hm4 hc4
    have HM4 := Lib.hid (HM0.out.trans hm4)
    have R4 := Lib.hid (R0.out.mv hm4 hlt)
    have C5 := Lib.hid (HWW.out w4 XR4 (HG.out w4 HM4.out))
    have d7 := XR4.cl 6 (by omega) (by omega)
    unfold climbV at d7
    rw [if_neg (by omega), if_pos rfl] at d7
    have hs4 := hm4.1.below.size
    clear hno hm4 hc4 R0 HM0 HX0 HTT HWW HG XR4
    generalize rdT nmB (m + 1) (ws.drop k) = res at *
    generalize rdW nmB m (ws.drop k) = r1 at *
    obtain rfl := HRD.out
    go_wp2_with fail
    (with_reducible refine Calls.mono C5.out ?_)
    rintro ee w5 ⟨hm5, ⟨k5, hc5, hd5⟩, x, A5, c5, rfl, hp5, hx⟩
    unfold exV
    have R5 := R4.out.mv hm5 hlt
    have HP5 := Lib.hid (PdD.wide (lo' := w.heap.size + 1) hp5 (by omega) (Nat.le_refl _))
    have HF := Lib.hid (pret_store (c := c5) hlt (HM4.out.trans hm5) hc5 hd5 HP5.out (Nat.lt_succ_self _) hx)
    obtain ⟨c0, c1, c2', c3⟩ := R5.c
    have f0 := R5.f 0
    have f1 := R5.f 1
    have f2 := R5.f 2
    have f3 := R5.f 3
    clear R4 HM4 C5 hm5 hc5 hd5 hp5 hx HP5 R5 d7 HRD
    generalize res.isSome = bb at *
    go_wp2_with fail
    refine bodyPost_ret (v := .tuple #[.agg #[.int .i64 x.op, .int .i64 x.n, .string x.name, .slice A5 x.kids.length c5], .bool bb]) (by simp [results, Tryz.results65, go_sem, c0, c1, c2', c3]) rfl ?_
    exact HF.out
end Go.Proofs.YtkhcfhhejmkikaaGreatDoor

namespace Go.Proofs.YtkhcfhhejmkikaaGreatDoor
open Go.RowKit
set_option maxRecDepth 100000

/-- Where a list of Kids stands. -/
def KRel (w0 : World) (ws : List W) (m : Nat) (res : Option (List E × List W)) (k : Nat) (v : Value) (acc : List E) (wr : World) : Prop :=
  k ≤ ws.length ∧ DrK wr w0.heap.size v acc ∧ Below w0.heap.size w0 wr ∧ acc.length ≤ k ∧ ∃ m', m' ≤ m ∧ 10 * (ws.length - k) + 11 ≤ m' ∧ rdK nmB m' acc (ws.drop k) = res
set_option maxHeartbeats 8000000 in
theorem l2List_of (A : Option Addr) (cap : Nat) (ws : List W) (m : Nat) (hn : ws.length ≤ 600) (IH : ModU A cap ws m) (k : Nat) (w : World) (hk : k ≤ ws.length) (hm : 10 * (ws.length - k) + 12 ≤ m + 1) (hW : Words w w.heap.size A ws) :
    Calls Tryz.prog 98 #[.slice A ws.length cap, .int .i64 (k : Int)] w (KsM ws.length (rdC nmB (m + 1) (ws.drop k)) w) := by
  obtain ⟨i0, hi, hz0, hz1, hz2⟩ := info_parts exprInfo
  have hb0 := (Below.refl w.heap.size w).alloc (Nat.le_refl _) (.cells #[] 24)
  have D0 := Lib.hid (show DrK (w.alloc (.cells #[] 24)) w.heap.size (.slice (some ⟨w.heap.size, 0, none⟩) 0 0) [] from DrK.lit (w := w) (lo := w.heap.size) [] (Nat.le_refl _) (by simp) (by simp))
  have IS0 := Lib.hid (l2Is_any A ws cap k rpS _ ((hW.below hb0).more hb0.size) hn (by omega))
  have HI := Lib.hid IH
  have HW := Lib.hid hW
  have HB := Lib.hid hb0
  have HRC := Lib.hid (rdC_eq nmB m (ws.drop k))
  clear IH hW hb0
  generalize rdC nmB (m + 1) (ws.drop k) = res at *
  go_enter Tryz.func98, Tryz.ntmps98
  go_wp2_with fail
  generalize w.alloc (.cells #[] 24) = wa at *
  unfold rpS at IS0
  cases hb : isT (ws.drop k) rpS
  · have hbb := Lib.hid hb
    unfold rpS at hb
    rw [hb] at IS0
    have HKR := Lib.hid (show rdK nmB m [] (ws.drop k) = res by rw [HRC.out, hbb.out, if_neg (by simp)])
    clear hb HRC hbb
    go_wp2_with fail
    (with_reducible refine Calls.mono IS0.out ?_)
    rintro ee w1 ⟨rfl, rfl⟩
    clear IS0
    have HS := Lib.hid (show KRel w ws m res k (.slice (some ⟨w.heap.size, 0, none⟩) 0 0) [] wa from ⟨hk, D0.out, HB.out, Nat.zero_le _, m, Nat.le_refl _, by omega, HKR.out⟩)
    have hk0 := Lib.hid hk
    clear D0 HB HKR hm hk
    go_wp2_with fail
    go_loopw [1, 6] (fun i v wr => ∃ (kk : Nat) (acc : List E), i = .int .i64 (kk : Int) ∧ KRel w ws m res kk v acc wr) (fun i _ _ => ws.length + 1 - (intOf i).toNat)
    case atStart => exact ⟨k, [], rfl, HS.out⟩
    case round =>
      clear HS
      obtain ⟨kk, acc, rfl, hkk, hD, hB, hacc, m', hm', ham, hK⟩ := hrel
      obtain ⟨q, rfl⟩ : ∃ q, m' = q + 1 := ⟨m' - 1, by omega⟩
      rw [rdK_eq] at hK
      obtain ⟨Av, cv, rfl⟩ := hD.slice
      have HOWN := Lib.hid hD.owned
      have L1 := (HI.out q (by omega)).L 1 kk wr (by omega) (by omega) hkk (by omega) ((HW.out.below hB).more hB.size)
      rw [show ((1 : Nat) : Int) = 1 from rfl] at L1
      replace L1 := Lib.hid L1
      have HLS := Lib.hid (fun e r => (rd_less nmB q).L 1 (ws.drop kk) e r (by omega))
      have HK := Lib.hid hK
      have HD := Lib.hid hD
      have HBr := Lib.hid hB
      have hsw := hB.size
      clear hK hD hB
      generalize rdL nmB q 1 (ws.drop kk) = r1 at *
      go_wp2_with fail
      (with_reducible refine Calls.mono L1.out ?_)
      rintro ee w2 ⟨x, A2, cc, rfl, hp2, hb2, hx⟩
      unfold exV
      have hal := (Below.refl w2.heap.size w2).alloc (Nat.le_refl _) (.cells #[.int .i64 x.op, .int .i64 x.n, .string x.name, .slice A2 x.kids.length cc] 24)
      have b0 := alloc_cell w2 #[.int .i64 x.op, .int .i64 x.n, .string x.name, .slice A2 x.kids.length cc] 24 (0, 0) 0
      have b1 := alloc_cell w2 #[.int .i64 x.op, .int .i64 x.n, .string x.name, .slice A2 x.kids.length cc] 24 (0, 0) 1
      have b2 := alloc_cell w2 #[.int .i64 x.op, .int .i64 x.n, .string x.name, .slice A2 x.kids.length cc] 24 (0, 0) 2
      have b3 := alloc_cell w2 #[.int .i64 x.op, .int .i64 x.n, .string x.name, .slice A2 x.kids.length cc] 24 (0, 0) 3
      replace b0 : (w2.alloc (.cells #[.int .i64 x.op, .int .i64 x.n, .string x.name, .slice A2 x.kids.length cc] 24)).cell? ⟨w2.heap.size, 0, none⟩ = some (.int .i64 x.op) := b0
      replace b1 : (w2.alloc (.cells #[.int .i64 x.op, .int .i64 x.n, .string x.name, .slice A2 x.kids.length cc] 24)).cell? ⟨w2.heap.size, 1, none⟩ = some (.int .i64 x.n) := b1
      replace b2 : (w2.alloc (.cells #[.int .i64 x.op, .int .i64 x.n, .string x.name, .slice A2 x.kids.length cc] 24)).cell? ⟨w2.heap.size, 2, none⟩ = some (.string x.name) := b2
      replace b3 : (w2.alloc (.cells #[.int .i64 x.op, .int .i64 x.n, .string x.name, .slice A2 x.kids.length cc] 24)).cell? ⟨w2.heap.size, 3, none⟩ = some (.slice A2 x.kids.length cc) := b3
      have hs2 := hb2.size
      have hba := hb2.trans (hal.mono hb2.size)
      have HP3 := Lib.hid (PdS.later hp2 hal (Nat.le_refl _) hal.size)
      have HD3 := Lib.hid (HD.out.below hba (Nat.le_refl _))
      have HB3 := Lib.hid (HBr.out.trans (hba.mono HBr.out.size))
      have hs3 := hal.size
      have HX := Lib.hid hx
      clear L1 hp2 hb2 hx hal hba HD HBr
      go_upto_region 5 with (fail)
      generalize w2.alloc (.cells #[.int .i64 x.op, .int .i64 x.n, .string x.name, .slice A2 x.kids.length cc] 24) = w3 at *
      -- the row of one, and the append
      have hal4 := (Below.refl w3.heap.size w3).alloc (Nat.le_refl _) (.cells #[.int .i64 x.op, .int .i64 x.n, .string x.name, .slice A2 x.kids.length cc] 24)
      obtain ⟨xs, ho, hxx⟩ := HD3.out.below hal4 (Nat.le_refl _)
      have HOW := Lib.hid ho
      have HXX := Lib.hid hxx
      have HNW := Lib.hid (new_four w3 (.int .i64 x.op) (.int .i64 x.n) (.string x.name) (.slice A2 x.kids.length cc) 24)
      have HTO := Lib.hid (kid_cells x A2 cc)
      have hbz : w.heap.size ≤ (w3.alloc (.cells #[.int .i64 x.op, .int .i64 x.n, .string x.name, .slice A2 x.kids.length cc] 24)).heap.size := by have := hal4.size; omega
      have HLB := Lib.hid (show (acc.length + 1 ≤ maxLen ∧ (acc.length + 1) * 56 ≤ 140737488355328) from ⟨by unfold maxLen; omega, by omega⟩)
      have HK4 := Lib.hid ((show PdS (w3.alloc (.cells #[.int .i64 x.op, .int .i64 x.n, .string x.name, .slice A2 x.kids.length cc] 24)) (fun b => Between (w3.alloc (.cells #[.int .i64 x.op, .int .i64 x.n, .string x.name, .slice A2 x.kids.length cc] 24)) w.heap.size (w3.alloc (.cells #[.int .i64 x.op, .int .i64 x.n, .string x.name, .slice A2 x.kids.length cc] 24)).heap.size b ∧ (Value.slice Av acc.length cv).ownBlock ≠ some b) x.kids A2 from
        (PdS.later HP3.out hal4 (Nat.le_refl _) hal4.size).keep (fun _ _ _ => rfl) (fun b hb => ⟨⟨by have := hb.1; omega, hb.2⟩, fun e => by have := HOWN.out b e; have := hb.1; omega⟩)))
      have HB4 := Lib.hid (HB3.out.trans (hal4.mono HB3.out.size))
      clear ho hxx hal4 HD3 HP3 HB3
      go_upto_region 6 with (at_builtin; refine wpList_append_lies _ rfl _ _ 22 rfl w.heap.size 24 i0 (.agg #[.int .i64 0, .int .i64 0, .string ⟨#[]⟩, .slice none 0 0]) 4 56 Tryz.underlying22 hi hz0 hz1 hz2 rfl (by decide) _ acc.length xs rfl HOW.out ⟨w3.heap.size, 0, none⟩ 1 1 (Kd.mk x A2 cc).cells rfl rfl HNW.out HTO.out (by decide) HLB.out.1 HLB.out.2 hbz _ rfl ?_; intro g8 cap8 w8 hown8 hgrow8 hat8 hlt8)
      have HD8 := Lib.hid (DrK.snoc (w := (w3.alloc (.cells #[.int .i64 x.op, .int .i64 x.n, .string x.name, .slice A2 x.kids.length cc] 24))) ⟨x, A2, cc⟩ HXX.out HOW.out.1 rfl hown8 hgrow8 hat8 HK4.out)
      have HB8 := Lib.hid (HB4.out.grown hgrow8 (by omega) (fun k e => by have := HOWN.out k e; omega))
      clear hown8 hgrow8 hat8 hlt8 HK4 HB4 HOW HXX HNW HTO HLB hbz b0 b1 b2 b3
      have HWr := Lib.hid ((HW.out.below HB8.out).more HB8.out.size)
      have hlen : (acc ++ [x]).length = acc.length + 1 := by simp
      rcases hr1 : r1 with _ | ⟨x', r⟩
      · have hres := Lib.hid (show res = none by rw [← HK.out, hr1]; rfl)
        have e1 : nextI ws.length (none : Option (E × List W)) = -1 := rfl
        subst hr1
        rw [e1]
        have ST := Lib.hid (l1Step_any (-1) w8)
        rw [if_pos (by omega)] at ST
        have hm1 : (-1 : Int) < 0 := by decide
        clear e1 HK HLS HX
        go_wp2_with fail
        (with_reducible refine Calls.mono ST.out ?_)
        rintro ee w9 ⟨rfl, rfl⟩
        go_wp2_with fail
        go_ret2
        exact ⟨acc ++ [x], _, _, by rw [hres.out, hlen]; rfl, HD8.out.pd, HB8.out, fun p hp => by rw [hres.out] at hp; cases hp⟩
      · obtain ⟨a1, a2, _, _⟩ := HLS.out _ _ hr1
        obtain ⟨k2, q1, q2, q3, q4⟩ := suf_place a1 a2
        obtain rfl : x = x' := HX.out _ hr1
        subst hr1
        have e1 : nextI ws.length (some (x, r)) = (k2 : Int) := by show ((ws.length - r.length : Nat) : Int) = _; omega
        rw [e1]
        have HK2 := Lib.hid (show res = if isT (ws.drop k2) rpS = true then some (acc ++ [x], ws.drop (k2 + 1)) else if isT (ws.drop k2) cmS = true then rdK nmB q (acc ++ [x]) (ws.drop (k2 + 1)) else none by
          rw [← HK.out, ← tail_drop, ← q3]; rfl)
        have ISr := Lib.hid (l2Is_any A ws cap k2 rpS w8 HWr.out hn (by omega))
        have ISc := Lib.hid (l2Is_any A ws cap k2 cmS w8 HWr.out hn (by omega))
        clear e1 HK HLS HX a1 a2 q3 q4
        cases hb : isT (ws.drop k2) rpS
        · rw [hb] at ISr HK2
          unfold rpS at ISr
          cases hc : isT (ws.drop k2) cmS
          · rw [hc] at ISc HK2
            have hres := Lib.hid (show res = none from HK2.out)
            unfold cmS at ISc
            clear hb hc HK2
            go_wp2_with fail
            (with_reducible refine Calls.mono ISr.out ?_)
            rintro ee w9 ⟨rfl, rfl⟩
            go_wp2_with fail
            (with_reducible refine Calls.mono ISc.out ?_)
            rintro ee w9 ⟨rfl, rfl⟩
            go_wp2_with fail
            go_ret2
            exact ⟨acc ++ [x], _, _, by rw [hres.out, hlen]; rfl, HD8.out.pd, HB8.out, fun p hp => by rw [hres.out] at hp; cases hp⟩
          · rw [hc] at ISc HK2
            obtain ⟨hk3, _⟩ := isT_lt hc
            have hres := Lib.hid (show rdK nmB q (acc ++ [x]) (ws.drop (k2 + 1)) = res from HK2.out.symm)
            unfold cmS at ISc
            clear hb hc HK2
            go_wp2_with fail
            (with_reducible refine Calls.mono ISr.out ?_)
            rintro ee w9 ⟨rfl, rfl⟩
            go_wp2_with fail
            (with_reducible refine Calls.mono ISc.out ?_)
            rintro ee w9 ⟨rfl, rfl⟩
            go_wp2_with fail
            go_roundw
            case rel => exact ⟨k2 + 1, acc ++ [x], by go_num, hk3, HD8.out, HB8.out, by omega, q, by omega, by omega, hres.out⟩
            case measure => simp only [intOf]; omega
        · rw [hb] at ISr HK2
          obtain ⟨hk3, _⟩ := isT_lt hb
          have hres := Lib.hid (show res = some (acc ++ [x], ws.drop (k2 + 1)) from HK2.out)
          have ST := Lib.hid (l1Step_any (k2 : Int) w8)
          rw [if_neg (by omega)] at ST
          unfold rpS at ISr
          clear hb HK2
          go_wp2_with fail
          (with_reducible refine Calls.mono ISr.out ?_)
          rintro ee w9 ⟨rfl, rfl⟩
          go_wp2_with fail
          (with_reducible refine Calls.mono ST.out ?_)
          rintro ee w9 ⟨rfl, rfl⟩
          go_wp2_with fail
          go_ret2
          exact ⟨acc ++ [x], _, _, by rw [hres.out, nextI_at _ hk3, hlen]; exact tup_int (by omega), HD8.out.pd, HB8.out, fun p hp => by rw [hres.out] at hp; injection hp with hp; rw [← hp]⟩
  · obtain ⟨hkl, _⟩ := isT_lt hb
    have hres := Lib.hid (show res = some ([], ws.drop (k + 1)) by rw [HRC.out, hb, if_pos rfl, tail_drop])
    unfold rpS at hb
    rw [hb] at IS0
    clear hb HRC HI HW
    go_wp2_with fail
    (with_reducible refine Calls.mono IS0.out ?_)
    rintro ee w1 ⟨rfl, rfl⟩
    go_wp2_with fail
    go_ret2
    exact ⟨[], _, _, by rw [hres.out, nextI_at _ hkl]; exact tup_int (by omega), .inl rfl, HB.out, fun p hp => by rw [hres.out] at hp; injection hp with hp; rw [← hp]⟩
end Go.Proofs.YtkhcfhhejmkikaaGreatDoor
