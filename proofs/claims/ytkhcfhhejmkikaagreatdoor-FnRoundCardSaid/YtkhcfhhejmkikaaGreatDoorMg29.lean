/-
  The model's reader of expressions: l2Tight.
-/
import Derived.Test.YtkhcfhhejmkikaaGreatDoorMg25
namespace Go.Proofs.YtkhcfhhejmkikaaGreatDoor
open Go.RowKit
set_option maxRecDepth 100000

theorem T_un {op : Int} {ws : List W} {k m : Nat} (h : aheadAt (ws.drop k) = some op) : rdT nmB (m + 1) (ws.drop k) = (rdT nmB m (ws.drop (k + 1))).bind fun p => some (unE op p.1, p.2) := by
  show (match aheadAt (ws.drop k) with
    | some op => (rdT nmB m (ws.drop k).tail).bind fun p => some (unE op p.1, p.2)
    | none => rdW nmB m (ws.drop k)) = _
  rw [h, tail_drop]
theorem T_at {ws : List W} {k m : Nat} (h : aheadAt (ws.drop k) = none) (hk : k < ws.length) : rdT nmB (m + 2) (ws.drop k) =
    if ws[k].2 = lpS then (rdL nmB m 1 (ws.drop (k + 1))).bind fun p => if isT p.2 rpS = true then some (p.1, p.2.tail) else none
      else if ws[k].1 = 2 then some (numE (nmB ws[k].2), ws.drop (k + 1))
      else if ws[k].1 = 1 then (if isT (ws.drop (k + 1)) lpS = true then (rdC nmB m (ws.drop (k + 2))).bind fun p => some (callE ws[k].2 p.1, p.2) else some (varE ws[k].2, ws.drop (k + 1)))
      else none := by
  rw [rdT_ahead h, List.drop_eq_getElem_cons hk, rdW_eq, tail_drop]
theorem T_end {ws : List W} {k m : Nat} (h : aheadAt (ws.drop k) = none) (hk : ¬ k < ws.length) : rdT nmB (m + 2) (ws.drop k) = none := by
  rw [rdT_ahead h, List.drop_eq_nil_of_le (by omega)]
  rfl

set_option maxHeartbeats 8000000 in
theorem l2Tight_of (A : Option Addr) (cap : Nat) (ws : List W) (m : Nat) (hn : ws.length ≤ 600) (hvs : ∀ x ∈ ws, x.2.size ≤ 4) (IH : ModU A cap ws m) (k : Nat) (w : World) (hk : k ≤ ws.length) (hm : 10 * (ws.length - k) + 4 ≤ m + 1) (hW : Words w w.heap.size A ws) :
    Calls Tryz.prog 60 #[.slice A ws.length cap, .int .i64 (k : Int)] w (RdM ws.length (rdT nmB (m + 1) (ws.drop k)) w) := by
  obtain ⟨m, rfl⟩ : ∃ q, m = q + 1 := ⟨m - 1, by omega⟩
  have hb0 := (Below.refl w.heap.size w).alloc (Nat.le_refl _) (.cells #[.int .i64 0, .int .i64 0, .string ⟨#[]⟩, .slice none 0 0] 24)
  have R0 := Res.new w (.int .i64 0) (.int .i64 0) (.string ⟨#[]⟩) (.slice none 0 0) 24
  have hz0 : (w.alloc (.cells #[.int .i64 0, .int .i64 0, .string ⟨#[]⟩, .slice none 0 0] 24)).heap.size = w.heap.size + 1 := World.size_alloc _ _
  have hW0 := (hW.below hb0).more hb0.size
  have IS := fun j t (hj : j ≤ 1000) => Lib.hid (l2Is_any A ws cap j t _ hW0 hn hj)
  have SG := fun op h => Lib.hid (l2Sign_any op (w.alloc (.cells #[.int .i64 0, .int .i64 0, .string ⟨#[]⟩, .slice none 0 0] 24)) h)
  have HI := Lib.hid IH
  have HW := Lib.hid hW0
  have HB := Lib.hid hb0
  have HRES := Lib.hid R0
  have HV := Lib.hid hvs
  clear IH hW hW0 hvs
  obtain ⟨c0, c1, c2', c3⟩ := R0.c
  have f0 := R0.f 0
  have f1 := R0.f 1
  have f2 := R0.f 2
  have f3 := R0.f 3
  have hsz : w.heap.size < (w.alloc (.cells #[.int .i64 0, .int .i64 0, .string ⟨#[]⟩, .slice none 0 0] 24)).heap.size := by omega
  clear R0 hb0
  go_enter Tryz.func60, Tryz.ntmps60
  go_wp2_with fail
  generalize w.alloc (.cells #[.int .i64 0, .int .i64 0, .string ⟨#[]⟩, .slice none 0 0] 24) = wa at *
  go_loop [6] (fun i => ∃ op : Int, i = .int .i64 op ∧ ((op = 11) ∨ (op = 12 ∧ isT (ws.drop k) (sgnS 11) = false) ∨ (op = 13 ∧ aheadAt (ws.drop k) = none))) (fun i => (13 - intOf i).toNat)
  case atStart => exact ⟨11, rfl, .inl rfl⟩
  case round =>
    obtain ⟨op, rfl, hop⟩ := hrel
    have HO := Lib.hid hop
    have hop2 : op = 11 ∨ op = 12 ∨ op = 13 := by rcases hop with h | h | h <;> omega
    clear hop
    by_cases hlt : op ≤ 12
    · have SG1 := SG op (by omega)
      have IS1 := IS k (sgnS op) (by omega)
      cases hb : isT (ws.drop k) (sgnS op)
      · rw [hb] at IS1
        have HBF := Lib.hid hb
        clear hb
        clear SG IS HI HRES HV
        generalize sgnS op = s at IS1 SG1
        go_wp2_with fail
        (with_reducible refine Calls.mono SG1.out ?_)
        rintro ee w1 ⟨rfl, rfl⟩
        go_wp2_with fail
        (with_reducible refine Calls.mono IS1.out ?_)
        rintro ee w1 ⟨rfl, rfl⟩
        go_wp2_with fail
        go_round
        case rel =>
          refine ⟨op + 1, by go_num, ?_⟩
          rcases HO.out with h | h | h
          · exact .inr (.inl ⟨by omega, by rw [← HBF.out, h]⟩)
          · exact .inr (.inr ⟨by omega, by rw [aheadAt_eq, h.2, if_neg (by simp), ← h.1, HBF.out, if_neg (by simp)]⟩)
          · omega
        case measure => simp only [intOf]; omega
      · have HA := Lib.hid (show aheadAt (ws.drop k) = some op by
          rcases HO.out with h | h | h
          · rw [aheadAt_eq, ← h, hb, if_pos rfl]
          · rw [aheadAt_eq, h.2, if_neg (by simp), ← h.1, hb, if_pos rfl]
          · omega)
        rw [hb] at IS1
        obtain ⟨hkl, _⟩ := isT_lt hb
        have HR := Lib.hid (T_un (m := m + 1) HA.out)
        have T1 := (HI.out (m + 1) (Nat.le_refl _)).T (k + 1) wa hkl (by omega) HW.out
        rw [show ((k + 1 : Nat) : Int) = (k : Int) + 1 by omega] at T1
        replace T1 := Lib.hid T1
        clear hb IS SG HO HI HA
        generalize rdT nmB (m + 1) (ws.drop (k + 1)) = r1 at *
        generalize rdT nmB (m + 1 + 1) (ws.drop k) = res at *
        generalize sgnS op = s at *
        go_wp2_with fail
        (with_reducible refine Calls.mono SG1.out ?_)
        rintro ee w1 ⟨rfl, rfl⟩
        go_wp2_with fail
        (with_reducible refine Calls.mono IS1.out ?_)
        rintro ee w1 ⟨rfl, rfl⟩
        go_wp2_with fail
        (with_reducible refine Calls.mono T1.out ?_)
        rintro ee w2 ⟨x, A2, cc, rfl, hp2, hb2, hx⟩
        unfold exV
        have hal := (Below.refl w2.heap.size w2).alloc (Nat.le_refl _) (.cells #[.int .i64 x.op, .int .i64 x.n, .string x.name, .slice A2 x.kids.length cc] 24)
        have b0 := alloc_cell w2 #[.int .i64 x.op, .int .i64 x.n, .string x.name, .slice A2 x.kids.length cc] 24 (0, 0) 0
        have b1 := alloc_cell w2 #[.int .i64 x.op, .int .i64 x.n, .string x.name, .slice A2 x.kids.length cc] 24 (0, 0) 1
        have b2 := alloc_cell w2 #[.int .i64 x.op, .int .i64 x.n, .string x.name, .slice A2 x.kids.length cc] 24 (0, 0) 2
        have b3 := alloc_cell w2 #[.int .i64 x.op, .int .i64 x.n, .string x.name, .slice A2 x.kids.length cc] 24 (0, 0) 3
        replace b0 : (w2.alloc (.cells #[.int .i64 x.op, .int .i64 x.n, .string x.name, .slice A2 x.kids.length cc] 24)).cell? ⟨w2.heap.size, 0, none⟩ = some (.int .i64 x.op) := b0
        replace b1 : (w2.alloc (.cells #[.int .i64 x.op, .int .i64 x.n, .string x.name, .slice A2 x.kids.length cc] 24)).cell? ⟨w2.heap.size, 1, none⟩ = some (.int .i64 x.n) := b1
        replace b2 : (w2.alloc (.cells #[.int .i64 x.op, .int .i64 x.n, .string x.name, .slice A2 x.kids.length cc] 24)).cell? ⟨w2.heap.size, 2, none⟩ = some (.string x.name) := b2
        replace b3 : (w2.alloc (.cells #[.int .i64 x.op, .int .i64 x.n, .string x.name, .slice A2 x.kids.length cc] 24)).cell? ⟨w2.heap.size, 3, none⟩ = some (.slice A2 x.kids.length cc) := b3
        have hs2 := hb2.size
        have R3 := (HRES.out.below hb2 hsz).below hal (by omega)
        have B3 := HB.out.trans ((hb2.trans (hal.mono hb2.size)).mono HB.out.size)
        have P3 := PdS.later hp2 hal (Nat.le_refl _) hal.size
        have hl3 : w2.heap.size < (w2.alloc (.cells #[.int .i64 x.op, .int .i64 x.n, .string x.name, .slice A2 x.kids.length cc] 24)).heap.size := by rw [World.size_alloc]; omega
        have HNX := Lib.hid (show nextI ws.length r1 = nextI ws.length res ∧ ∀ p, res = some p → unE op x = p.1 by
          rw [HR.out]
          cases r1 with
          | none => exact ⟨rfl, fun p hp => by cases hp⟩
          | some p => exact ⟨rfl, fun q hq => by injection hq with hq; rw [← hq, hx p rfl]⟩)
        have HR3 := Lib.hid R3
        have HB3 := Lib.hid B3
        have HP3 := Lib.hid P3
        clear T1 HRES HB HR hp2 hb2 hx R3 B3 P3 hal c0 c1 c2' c3 f0 f1 f2 f3 IS1 SG1
        go_upto_region 6 with (fail)
        generalize w2.alloc (.cells #[.int .i64 x.op, .int .i64 x.n, .string x.name, .slice A2 x.kids.length cc] 24) = w3 at *
        have hal4 := (Below.refl w3.heap.size w3).alloc (Nat.le_refl _) (.cells #[.int .i64 x.op, .int .i64 x.n, .string x.name, .slice A2 x.kids.length cc] 24)
        have R4 := HR3.out.below hal4 HR3.out.lt
        have HP4 := Lib.hid (pd_lit (w := w3) (S := Between w3 wa.heap.size w3.heap.size) (S' := Between (w3.alloc (.cells #[.int .i64 x.op, .int .i64 x.n, .string x.name, .slice A2 x.kids.length cc] 24)) wa.heap.size (w3.alloc (.cells #[.int .i64 x.op, .int .i64 x.n, .string x.name, .slice A2 x.kids.length cc] 24)).heap.size) [⟨x, A2, cc⟩]
          ⟨by omega, by rw [World.size_alloc]; omega, ⟨_, _, heap_alloc_new _ _⟩⟩ (fun kd hkd => by simp at hkd; subst hkd; exact HP3.out) (fun b hb => hb.2.1) (fun b hb => ⟨hb.1, by rw [World.size_alloc]; have := hb.2.1; omega, hb.2.2.below hal4 hb.2.1⟩))
        have HB4 := Lib.hid (HB3.out.trans (hal4.mono HB3.out.size))
        obtain ⟨c0, c1, c2', c3⟩ := R4.c
        have f0 := R4.f 0
        have f1 := R4.f 1
        have f2 := R4.f 2
        have f3 := R4.f 3
        clear HR3 HB3 HP3 hal4 R4
        generalize nextI ws.length r1 = z1 at *
        go_wp2_with fail
        refine bodyPost_ret (v := .tuple #[.agg #[.int .i64 op, .int .i64 0, .string ⟨#[]⟩, .slice (some ⟨w3.heap.size, 0, none⟩) 1 1], .int .i64 z1]) (by simp [results, Tryz.results60, go_sem, c0, c1, c2', c3]) rfl ⟨unE op x, some ⟨w3.heap.size, 0, none⟩, 1, by rw [← HNX.out.1]; rfl, ?_, below_four HB4.out (Nat.le_refl _) _ _ _ _, HNX.out.2⟩
        have h := PdS.four' HP4.out (show w.heap.size < wa.heap.size by omega) (.int .i64 op) (.int .i64 0) (.string ⟨#[]⟩) (.slice (some ⟨w3.heap.size, 0, none⟩) 1 1)
        exact h.wide (by omega) (by simp)
    · obtain rfl : op = 13 := by omega
      have HA := Lib.hid (show aheadAt (ws.drop k) = none by rcases HO.out with h | h | h; omega; omega; exact h.2)
      clear HO hop2 SG
      by_cases hkl : k < ws.length
      · have HTA := Lib.hid (T_at (m := m) HA.out hkl)
        obtain ⟨b, o, rfl, hBb, d1, d2⟩ := HW.out.at_ hkl
        have hv4 := HV.out _ (List.getElem_mem hkl)
        have IS1 := IS k lpS (by omega)
        have IS2 := (IS (k + 1) lpS (by omega)).out
        rw [show ((k + 1 : Nat) : Int) = (k : Int) + 1 by omega] at IS2
        replace IS2 := Lib.hid IS2
        rw [isT_drop, dif_pos hkl] at IS1
        generalize rdT nmB (m + 1 + 1) (ws.drop k) = res at *
        generalize hz : ws[k].1 = z at *
        generalize ht : ws[k].2 = t at *
        clear hz ht HA HV
        by_cases hlp : t = lpS
        · rw [decide_eq_true hlp] at IS1
          have L1 := (HI.out m (by omega)).L 1 (k + 1) wa (by omega) (by omega) hkl (by omega) HW.out
          rw [show ((k + 1 : Nat) : Int) = (k : Int) + 1 by omega, show ((1 : Nat) : Int) = 1 from rfl] at L1
          replace L1 := Lib.hid L1
          have HLS := Lib.hid (fun e r => (rd_less nmB m).L 1 (ws.drop (k + 1)) e r (by omega))
          have HRS := Lib.hid (show res = (rdL nmB m 1 (ws.drop (k + 1))).bind fun p => if isT p.2 rpS = true then some (p.1, p.2.tail) else none by rw [HTA.out, if_pos hlp])
          clear HTA hlp IS2 d1 d2
          generalize rdL nmB m 1 (ws.drop (k + 1)) = r1 at *
          unfold lpS at IS1
          go_wp2_with fail
          (with_reducible refine Calls.mono IS1.out ?_)
          rintro ee w1 ⟨rfl, rfl⟩
          go_wp2_with fail
          (with_reducible refine Calls.mono L1.out ?_)
          rintro ee w2 ⟨x, A2, cc, rfl, hp2, hb2, hx⟩
          unfold exV
          have hal := (Below.refl w2.heap.size w2).alloc (Nat.le_refl _) (.cells #[.int .i64 x.op, .int .i64 x.n, .string x.name, .slice A2 x.kids.length cc] 24)
          have b0 := alloc_cell w2 #[.int .i64 x.op, .int .i64 x.n, .string x.name, .slice A2 x.kids.length cc] 24 (0, 0) 0
          have b1 := alloc_cell w2 #[.int .i64 x.op, .int .i64 x.n, .string x.name, .slice A2 x.kids.length cc] 24 (0, 0) 1
          have b2 := alloc_cell w2 #[.int .i64 x.op, .int .i64 x.n, .string x.name, .slice A2 x.kids.length cc] 24 (0, 0) 2
          have b3 := alloc_cell w2 #[.int .i64 x.op, .int .i64 x.n, .string x.name, .slice A2 x.kids.length cc] 24 (0, 0) 3
          replace b0 : (w2.alloc (.cells #[.int .i64 x.op, .int .i64 x.n, .string x.name, .slice A2 x.kids.length cc] 24)).cell? ⟨w2.heap.size, 0, none⟩ = some (.int .i64 x.op) := b0
          replace b1 : (w2.alloc (.cells #[.int .i64 x.op, .int .i64 x.n, .string x.name, .slice A2 x.kids.length cc] 24)).cell? ⟨w2.heap.size, 1, none⟩ = some (.int .i64 x.n) := b1
          replace b2 : (w2.alloc (.cells #[.int .i64 x.op, .int .i64 x.n, .string x.name, .slice A2 x.kids.length cc] 24)).cell? ⟨w2.heap.size, 2, none⟩ = some (.string x.name) := b2
          replace b3 : (w2.alloc (.cells #[.int .i64 x.op, .int .i64 x.n, .string x.name, .slice A2 x.kids.length cc] 24)).cell? ⟨w2.heap.size, 3, none⟩ = some (.slice A2 x.kids.length cc) := b3
          have hs2 := hb2.size
          have hba := hb2.trans (hal.mono hb2.size)
          have R3 := HRES.out.below hba hsz
          have HB3 := Lib.hid (HB.out.trans (hba.mono HB.out.size))
          have HP3 := Lib.hid (PdS.later hp2 hal (Nat.le_refl _) hal.size)
          have HW3 := Lib.hid ((HW.out.below hba).more hba.size)
          have HX := Lib.hid hx
          obtain ⟨c0, c1, c2', c3⟩ := R3.c
          have f0 := R3.f 0
          have f1 := R3.f 1
          have f2 := R3.f 2
          have f3 := R3.f 3
          clear L1 HRES HB hp2 hb2 hx R3 hal hba IS1 IS HI
          go_upto_region 9 with (fail)
          generalize w2.alloc (.cells #[.int .i64 x.op, .int .i64 x.n, .string x.name, .slice A2 x.kids.length cc] 24) = w3 at *
          have fin : ∀ (zz : Int), (zz = nextI ws.length res) → (∀ p, res = some p → x = p.1) → ∀ ww, ww = ((((w3.setCell ⟨w.heap.size, 0, none⟩ (.int .i64 x.op)).setCell ⟨w.heap.size, 1, none⟩ (.int .i64 x.n)).setCell ⟨w.heap.size, 2, none⟩ (.string x.name)).setCell ⟨w.heap.size, 3, none⟩ (.slice A2 x.kids.length cc)) →
              RdM ws.length res w (.returned (.tuple #[exV x A2 cc, .int .i64 zz])) ww := by
            intro zz hzz he ww hww
            subst hww
            refine ⟨x, A2, cc, by rw [hzz], ?_, below_four HB3.out (Nat.le_refl _) _ _ _ _, he⟩
            have h := PdS.four' HP3.out (show w.heap.size < wa.heap.size by omega) (.int .i64 x.op) (.int .i64 x.n) (.string x.name) (.slice A2 x.kids.length cc)
            exact h.wide (by omega) (by simp)
          have FIN := Lib.hid fin
          clear fin
          rcases hr1 : r1 with _ | ⟨x', r⟩
          · have hres := Lib.hid (show res = none by rw [HRS.out, hr1]; rfl)
            have e1 : nextI ws.length (none : Option (E × List W)) = -1 := rfl
            subst hr1
            rw [e1]
            clear e1 HRS HLS HX
            go_wp2_with fail
            refine bodyPost_ret (v := .tuple #[.agg #[.int .i64 x.op, .int .i64 x.n, .string x.name, .slice A2 x.kids.length cc], .int .i64 (-1)]) (by simp [results, Tryz.results60, go_sem, c0, c1, c2', c3]) rfl ?_
            exact FIN.out _ (by rw [hres.out]; rfl) (fun p hp => by rw [hres.out] at hp; cases hp) _ rfl
          · obtain ⟨a1, a2, _, _⟩ := HLS.out _ _ hr1
            obtain ⟨k2, q1, q2, q3, q4⟩ := suf_place a1 a2
            have hxx : x = x' := HX.out _ hr1
            subst hr1
            have e1 : nextI ws.length (some (x', r)) = (k2 : Int) := by show ((ws.length - r.length : Nat) : Int) = _; omega
            rw [e1]
            have IS3 := Lib.hid (l2Is_any _ ws cap k2 rpS w3 HW3.out hn (by omega))
            have HRS2 := Lib.hid (show res = if isT (ws.drop k2) rpS = true then some (x, ws.drop (k2 + 1)) else none by rw [HRS.out, hxx, ← tail_drop, ← q3]; rfl)
            clear e1 HRS HLS HX a1 a2 q3 q4 hxx HW3 HW
            cases hb : isT (ws.drop k2) rpS
            · rw [hb] at IS3 HRS2
              have hres := Lib.hid (show res = none from HRS2.out)
              clear hb HRS2
              unfold rpS at IS3
              go_wp2_with fail
              (with_reducible refine Calls.mono IS3.out ?_)
              rintro ee w4 ⟨rfl, rfl⟩
              go_wp2_with fail
              refine bodyPost_ret (v := .tuple #[.agg #[.int .i64 x.op, .int .i64 x.n, .string x.name, .slice A2 x.kids.length cc], .int .i64 (-1)]) (by simp [results, Tryz.results60, go_sem, c0, c1, c2', c3]) rfl ?_
              exact FIN.out _ (by rw [hres.out]; rfl) (fun p hp => by rw [hres.out] at hp; cases hp) _ rfl
            · rw [hb] at IS3 HRS2
              obtain ⟨hk3, _⟩ := isT_lt hb
              have hres := Lib.hid (show res = some (x, ws.drop (k2 + 1)) from HRS2.out)
              clear hb HRS2
              unfold rpS at IS3
              go_wp2_with fail
              (with_reducible refine Calls.mono IS3.out ?_)
              rintro ee w4 ⟨rfl, rfl⟩
              go_wp2_with fail
              refine bodyPost_ret (v := .tuple #[.agg #[.int .i64 x.op, .int .i64 x.n, .string x.name, .slice A2 x.kids.length cc], .int .i64 ((k2 : Int) + 1)]) (by simp [results, Tryz.results60, go_sem, c0, c1, c2', c3]) rfl ?_
              exact FIN.out _ (by rw [hres.out, nextI_at _ hk3]; omega) (fun p hp => by rw [hres.out] at hp; injection hp with hp; rw [← hp]) _ rfl
        · rw [decide_eq_false hlp] at IS1
          have HR1 := Lib.hid (show res = if z = 2 then some (numE (nmB t), ws.drop (k + 1))
            else if z = 1 then (if isT (ws.drop (k + 1)) lpS = true then (rdC nmB m (ws.drop (k + 2))).bind fun p => some (callE t p.1, p.2) else some (varE t, ws.drop (k + 1)))
            else none by rw [HTA.out, if_neg hlp])
          clear HTA hlp
          unfold lpS at IS1
          have leaf : ∀ (e : E) (zz : Int) (hk : e.kids = []), (zz = nextI ws.length res) → (∀ p, res = some p → e = p.1) → ∀ W ww, Below w.heap.size w W → ww = ((((W.setCell ⟨w.heap.size, 0, none⟩ (.int .i64 e.op)).setCell ⟨w.heap.size, 1, none⟩ (.int .i64 e.n)).setCell ⟨w.heap.size, 2, none⟩ (.string e.name)).setCell ⟨w.heap.size, 3, none⟩ (.slice none 0 0)) →
              RdM ws.length res w (.returned (.tuple #[.agg #[.int .i64 e.op, .int .i64 e.n, .string e.name, .slice none 0 0], .int .i64 zz])) ww := by
            intro e zz hk hzz he W ww hBW hww
            subst hww
            refine ⟨e, none, 0, ?_, ?_, below_four hBW (Nat.le_refl _) _ _ _ _, he⟩
            · unfold exV; rw [hk, hzz]; rfl
            · rw [hk]; exact .inl rfl
          have LF := Lib.hid leaf
          clear leaf
          by_cases hz2 : z = 2
          · subst hz2
            have hres := Lib.hid (show res = some (numE (nmB t), ws.drop (k + 1)) by rw [HR1.out, if_pos rfl])
            have NB := Lib.hid (specNumberOf_any 2 t wa (by omega))
            have e2 : numOfB 2 t = nmB t := by unfold numOfB; rw [if_pos rfl]; rfl
            rw [e2] at NB
            clear e2 HR1 IS2 IS HI hv4
            generalize nmB t = nv at *
            go_wp2_with fail
            (with_reducible refine Calls.mono IS1.out ?_)
            rintro ee w1 ⟨rfl, rfl⟩
            go_wp2_with fail
            (with_reducible refine Calls.mono NB.out ?_)
            rintro ee w2 ⟨rfl, hb2⟩
            have R2 := HRES.out.below hb2 hsz
            have HB2 := Lib.hid (HB.out.trans (hb2.mono HB.out.size))
            obtain ⟨c0, c1, c2', c3⟩ := R2.c
            have f0 := R2.f 0
            have f1 := R2.f 1
            have f2 := R2.f 2
            have f3 := R2.f 3
            clear R2 hb2 NB HRES HB
            go_wp2_with fail
            refine bodyPost_ret (v := .tuple #[.agg #[.int .i64 1, .int .i64 nv, .string ⟨#[]⟩, .slice none 0 0], .int .i64 ((k : Int) + 1)]) (by simp [results, Tryz.results60, go_sem, c0, c1, c2', c3]) rfl ?_
            exact LF.out (numE nv) _ rfl (by rw [hres.out, nextI_at _ hkl]; omega) (fun p hp => by rw [hres.out] at hp; injection hp with hp; rw [← hp]) _ _ HB2.out rfl
          · have b2 : (z == 2) = false := beq_no hz2
            by_cases hz1 : z = 1
            · subst hz1
              have HR2 := Lib.hid (show res = if isT (ws.drop (k + 1)) lpS = true then (rdC nmB m (ws.drop (k + 2))).bind fun p => some (callE t p.1, p.2) else some (varE t, ws.drop (k + 1)) by rw [HR1.out, if_neg (by omega), if_pos rfl])
              clear HR1 hz2
              cases hb : isT (ws.drop (k + 1)) lpS
              · rw [hb] at IS2 HR2
                have hres := Lib.hid (show res = some (varE t, ws.drop (k + 1)) from HR2.out)
                clear hb HR2 IS HI
                unfold lpS at IS2
                go_wp2_with fail
                (with_reducible refine Calls.mono IS1.out ?_)
                rintro ee w1 ⟨rfl, rfl⟩
                go_wp2_with fail
                (with_reducible refine Calls.mono IS2.out ?_)
                rintro ee w1 ⟨rfl, rfl⟩
                go_wp2_with fail
                refine bodyPost_ret (v := .tuple #[.agg #[.int .i64 2, .int .i64 0, .string t, .slice none 0 0], .int .i64 ((k : Int) + 1)]) (by simp [results, Tryz.results60, go_sem, c0, c1, c2', c3]) rfl ?_
                exact LF.out (varE t) _ rfl (by rw [hres.out, nextI_at _ hkl]; omega) (fun p hp => by rw [hres.out] at hp; injection hp with hp; rw [← hp]) _ _ HB.out rfl
              · rw [hb] at IS2 HR2
                obtain ⟨hk1, _⟩ := isT_lt hb
                have HR3 := Lib.hid (show res = (rdC nmB m (ws.drop (k + 2))).bind fun p => some (callE t p.1, p.2) from HR2.out)
                have C1 := (HI.out m (by omega)).C (k + 2) wa hk1 (by omega) HW.out
                rw [show ((k + 2 : Nat) : Int) = (k : Int) + 2 by omega] at C1
                replace C1 := Lib.hid C1
                clear hb HR2 IS HI LF
                generalize rdC nmB m (ws.drop (k + 2)) = r1 at *
                unfold lpS at IS2
                go_wp2_with fail
                (with_reducible refine Calls.mono IS1.out ?_)
                rintro ee w1 ⟨rfl, rfl⟩
                go_wp2_with fail
                (with_reducible refine Calls.mono IS2.out ?_)
                rintro ee w1 ⟨rfl, rfl⟩
                go_wp2_with fail
                (with_reducible refine Calls.mono C1.out ?_)
                rintro ee w2 ⟨ks, A2, cc, rfl, hp2, hb2, hks⟩
                have R2 := HRES.out.below hb2 hsz
                have d2' := (hb2.cell (p := ⟨b, o + k * 2 + 1, none⟩) hBb).trans d2
                have HB2 := Lib.hid (HB.out.trans (hb2.mono HB.out.size))
                have HP2 := Lib.hid hp2
                have HNX := Lib.hid (show nextI ws.length r1 = nextI ws.length res ∧ ∀ p, res = some p → callE t ks = p.1 by
                  rw [HR3.out]
                  cases r1 with
                  | none => exact ⟨rfl, fun p hp => by cases hp⟩
                  | some p => exact ⟨rfl, fun q hq => by injection hq with hq; rw [← hq, hks p rfl]⟩)
                obtain ⟨c0, c1, c2', c3⟩ := R2.c
                have f0 := R2.f 0
                have f1 := R2.f 1
                have f2 := R2.f 2
                have f3 := R2.f 3
                clear R2 hb2 hp2 hks C1 HRES HB HR3 d1 d2
                generalize nextI ws.length r1 = z1 at *
                go_wp2_with fail
                refine bodyPost_ret (v := .tuple #[.agg #[.int .i64 13, .int .i64 0, .string t, .slice A2 ks.length cc], .int .i64 z1]) (by simp [results, Tryz.results60, go_sem, c0, c1, c2', c3]) rfl ⟨callE t ks, A2, cc, by rw [← HNX.out.1]; rfl, ?_, below_four HB2.out (Nat.le_refl _) _ _ _ _, HNX.out.2⟩
                have h := PdS.four' HP2.out (show w.heap.size < wa.heap.size by omega) (.int .i64 13) (.int .i64 0) (.string t) (.slice A2 ks.length cc)
                exact h.wide (by omega) (by simp)
            · have b1 : (z != 1) = true := by rw [bne, beq_no hz1]; rfl
              have hres := Lib.hid (show res = none by rw [HR1.out, if_neg hz2, if_neg hz1])
              clear HR1 hz1 hz2 IS HI IS2
              go_wp2_with fail
              (with_reducible refine Calls.mono IS1.out ?_)
              rintro ee w1 ⟨rfl, rfl⟩
              go_wp2_with fail
              refine bodyPost_ret (v := .tuple #[.agg #[.int .i64 0, .int .i64 0, .string ⟨#[]⟩, .slice none 0 0], .int .i64 (-1)]) (by simp [results, Tryz.results60, go_sem, c0, c1, c2', c3]) rfl ?_
              exact LF.out (.mk 0 0 ⟨#[]⟩ []) _ rfl (by rw [hres.out]; rfl) (fun p hp => by rw [hres.out] at hp; cases hp) _ _ HB.out rfl
      · have hres := Lib.hid (T_end (m := m) HA.out hkl)
        have IS1 := IS k lpS (by omega)
        rw [isT_drop, dif_neg hkl] at IS1
        unfold lpS at IS1
        clear IS HI HV HA HW HRES
        generalize rdT nmB (m + 1 + 1) (ws.drop k) = res at *
        go_wp2_with fail
        (with_reducible refine Calls.mono IS1.out ?_)
        rintro ee w1 ⟨rfl, rfl⟩
        go_wp2_with fail
        refine bodyPost_ret (v := .tuple #[.agg #[.int .i64 0, .int .i64 0, .string ⟨#[]⟩, .slice none 0 0], .int .i64 (-1)]) (by simp [results, Tryz.results60, go_sem, c0, c1, c2', c3]) rfl ⟨.mk 0 0 ⟨#[]⟩ [], none, 0, by rw [hres.out]; rfl, .inl rfl, below_four HB.out (Nat.le_refl _) _ _ _ _, fun p hp => by rw [hres.out] at hp; cases hp⟩

end Go.Proofs.YtkhcfhhejmkikaaGreatDoor
