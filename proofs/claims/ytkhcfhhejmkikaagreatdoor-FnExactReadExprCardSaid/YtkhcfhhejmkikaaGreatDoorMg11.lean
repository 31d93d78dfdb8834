/-
  The program's reader of expressions: lists of Kids, and calls.
-/
import Derived.Test.YtkhcfhhejmkikaaGreatDoorMg10
namespace Go.Proofs.YtkhcfhhejmkikaaGreatDoor
open Go.RowKit
set_option maxRecDepth 100000

theorem T_un {op : Int} {ws : List W} {k m : Nat} (h : aheadAt (ws.drop k) = some op) : rdT nmB (m + 1) (ws.drop k) = (rdT nmB m (ws.drop (k + 1))).bind fun p => some (unE op p.1, p.2) := by
  show (match aheadAt (ws.drop k) with
    | some op => (rdT nmB m (ws.drop k).tail).bind fun p => some (unE op p.1, p.2)
    | none => rdW nmB m (ws.drop k)) = _
  rw [h, tail_drop]
theorem T_at {ws : List W} {k m : Nat} (h : aheadAt (ws.drop k) = none) (hk : k < ws.length) : rdT nmB (m + 2) (ws.drop k) =
    if ws[k].2 = lpS then (rdL nmB m 1 (ws.drop (k + 1))).bind fun p => if isT p.2 rpS = true then some (p.1, p.2.tail) else none
      else if ws[k].1 = 2 then some (numE (nmB ws[k].2), ws.drop (k + 1))
      else if ws[k].1 = 1 then (if isT (ws.drop (k + 1)) lpS = true then (rdC nmB m (ws.drop (k + 2))).bind fun p => some (callE ws[k].2 p.1, p.2) else some (varE ws[k].2, ws.drop (k + 1)))
      else none := by
  rw [rdT_ahead h, List.drop_eq_getElem_cons hk, rdW_eq, tail_drop]
theorem T_end {ws : List W} {k m : Nat} (h : aheadAt (ws.drop k) = none) (hk : ¬ k < ws.length) : rdT nmB (m + 2) (ws.drop k) = none := by
  rw [rdT_ahead h, List.drop_eq_nil_of_le (by omega)]
  rfl

set_option maxHeartbeats 8000000 in
theorem l2Tight_of (A : Option Addr) (cap : Nat) (ws : List W) (m : Nat) (hn : ws.length ≤ 600) (hvs : ∀ x ∈ ws, x.2.size ≤ 4) (IH : ModU A cap ws m) (k : Nat) (w : World) (hk : k ≤ ws.length) (hm : 10 * (ws.length - k) + 4 ≤ m + 1) (hW : Words w w.heap.size A ws) :
    Calls Tryz.prog 60 #[.slice A ws.length cap, .int .i64 (k : Int)] w (RdM ws.length (rdT nmB (m + 1) (ws.drop k)) w) := by
  obtain ⟨m, rfl⟩ : ∃ q, m = q + 1 := ⟨m - 1, by omega⟩
  have hb0 := (Below.refl w.heap.size w).alloc (Nat.le_refl _) (.cells #[.int .i64 0, .int .i64 0, .string ⟨#[]⟩, .slice none 0 0] 24)
  have R0 := Res.new w (.int .i64 0) (.int .i64 0) (.string ⟨#[]⟩) (.slice none 0 0) 24
  have hz0 : (w.alloc (.cells #[.int .i64 0, .int .i64 0, .string ⟨#[]⟩, .slice none 0 0] 24)).heap.size = w.heap.size + 1 := World.size_alloc _ _
  have hW0 := (hW.below hb0).more hb0.size
  have IS := fun j t (hj : j ≤ 1000) => Lib.hid (l2Is_any A ws cap j t _ hW0 hn hj)
  have SG := fun op h => Lib.hid (l2Sign_any op (w.alloc (.cells #[.int .i64 0, .int .i64 0, .string ⟨#[]⟩, .slice none 0 0] 24)) h)
  have HI := Lib.hid IH
  have HW := Lib.hid hW0
  have HB := Lib.hid hb0
  have HRES := Lib.hid R0
  have HV := Lib.hid hvs
  clear IH hW hW0 hvs
  obtain ⟨c0, c1, c2', c3⟩ := R0.c
  have f0 := R0.f 0
  have f1 := R0.f 1
  have f2 := R0.f 2
  have f3 := R0.f 3
  have hsz : w.heap.size < (w.alloc (.cells #[.int .i64 0, .int .i64 0, .string ⟨#[]⟩, .slice none 0 0] 24)).heap.size := by omega
  clear R0 hb0
  go_enter Tryz.func60, Tryz.ntmps60
  go_wp2_with fail
  generalize w.alloc (.cells #[.int .i64 0, .int .i64 0, .string ⟨#[]⟩, .slice none 0 0] 24) = wa at *
  go_loop [6] (fun i => ∃ op : Int, i = .int .i64 op ∧ ((op = 11) ∨ (op = 12 ∧ isT (ws.drop k) (sgnS 11) = false) ∨ (op = 13 ∧ aheadAt (ws.drop k) = none))) (fun i => (13 - intOf i).toNat)
  case atStart => exact ⟨11, rfl, .inl rfl⟩
  case round =>
    obtain ⟨op, rfl, hop⟩ := hrel
    have HO := Lib.hid hop
    have hop2 : op = 11 ∨ op = 12 ∨ op = 13 := by rcases hop with h | h | h <;> omega
    clear hop
    by_cases hlt : op ≤ 12
    · have SG1 := SG op (by omega)
      have IS1 := IS k (sgnS op) (by omega)
      cases hb : isT (ws.drop k) (sgnS op)
      · rw [hb] at IS1
        have HBF := Lib.hid hb
        clear hb
        clear SG IS HI HRES HV
        generalize sgnS op = s at IS1 SG1
        go_wp2_with fail
        (with_reducible refine Calls.mono SG1.out ?_)
        rintro ee w1 ⟨rfl, rfl⟩
        go_wp2_with fail
        (with_reducible refine Calls.mono IS1.out ?_)
        rintro ee w1 ⟨rfl, rfl⟩
        go_wp2_with fail
        go_round
        case rel =>
          refine ⟨op + 1, by go_num, ?_⟩
          rcases HO.out with h | h | h
          · exact .inr (.inl ⟨by omega, by rw [← HBF.out, h]⟩)
          · exact .inr (.inr ⟨by omega, by rw [aheadAt_eq, h.2, if_neg (by simp), ← h.1, HBF.out, if_neg (by simp)]⟩)
          · omega
        case measure => simp only [intOf]; omega
      · have HA := Lib.hid (show aheadAt (ws.drop k) = some op by
          rcases HO.out with h | h | h
          · rw [aheadAt_eq, ← h, hb, if_pos rfl]
          · rw [aheadAt_eq, h.2, if_neg (by simp), ← h.1, hb, if_pos rfl]
          · omega)
        rw [hb] at IS1
        obtain ⟨hkl, _⟩ := isT_lt hb
        have HR := Lib.hid (T_un (m := m + 1) HA.out)
        have T1 := (HI.out (m + 1) (Nat.le_refl _)).T (k + 1) wa hkl (by omega) HW.out
        rw [show ((k + 1 : Nat) : Int) = (k : Int) + 1 by omega] at T1
        replace T1 := Lib.hid T1
        clear hb IS SG HO HI HA
        generalize rdT nmB (m + 1) (ws.drop (k + 1)) = r1 at *
        generalize rdT nmB (m + 1 + 1) (ws.drop k) = res at *
        generalize sgnS op = s at *
        go_wp2_with fail
        (with_reducible refine Calls.mono SG1.out ?_)
        rintro ee w1 ⟨rfl, rfl⟩
        go_wp2_with fail
        (with_reducible refine Calls.mono IS1.out ?_)
        rintro ee w1 ⟨rfl, rfl⟩
        go_wp2_with fail
        (with_reducible refine Calls.mono T1.out ?_)
        rintro ee w2 ⟨x, A2, cc, rfl, hp2, hb2, hx⟩
        unfold exV
        have hal := (Below.refl w2.heap.size w2).alloc (Nat.le_refl _) (.cells #[.int .i64 x.op, .int .i64 x.n, .string x.name, .slice A2 x.kids.length cc] 24)
        have b0 := alloc_cell w2 #[.int .i64 x.op, .int .i64 x.n, .string x.name, .slice A2 x.kids.length cc] 24 (0, 0) 0
        have b1 := alloc_cell w2 #[.int .i64 x.op, .int .i64 x.n, .string x.name, .slice A2 x.kids.length cc] 24 (0, 0) 1
        have b2 := alloc_cell w2 #[.int .i64 x.op, .int .i64 x.n, .string x.name, .slice A2 x.kids.length cc] 24 (0, 0) 2
        have b3 := alloc_cell w2 #[.int .i64 x.op, .int .i64 x.n, .string x.name, .slice A2 x.kids.length cc] 24 (0, 0) 3
        replace b0 : (w2.alloc (.cells #[.int .i64 x.op, .int .i64 x.n, .string x.name, .slice A2 x.kids.length cc] 24)).cell? ⟨w2.heap.size, 0, none⟩ = some (.int .i64 x.op) := b0
        replace b1 : (w2.alloc (.cells #[.int .i64 x.op, .int .i64 x.n, .string x.name, .slice A2 x.kids.length cc] 24)).cell? ⟨w2.heap.size, 1, none⟩ = some (.int .i64 x.n) := b1
        replace b2 : (w2.alloc (.cells #[.int .i64 x.op, .int .i64 x.n, .string x.name, .slice A2 x.kids.length cc] 24)).cell? ⟨w2.heap.size, 2, none⟩ = some (.string x.name) := b2
        replace b3 : (w2.alloc (.cells #[.int .i64 x.op, .int .i64 x.n, .string x.name, .slice A2 x.kids.length cc] 24)).cell? ⟨w2.heap.size, 3, none⟩ = some (.slice A2 x.kids.length cc) := b3
        have hs2 := hb2.size
        have R3 := (HRES.out.below hb2 hsz).below hal (by omega)
        have B3 := HB.out.trans ((hb2.trans (hal.mono hb2.size)).mono HB.out.size)
        have P3 := PdS.later hp2 hal (Nat.le_refl _) hal.size
        have hl3 : w2.heap.size < (w2.alloc (.cells #[.int .i64 x.op, .int .i64 x.n, .string x.name, .slice A2 x.kids.length cc] 24)).heap.size := by rw [World.size_alloc]; omega
        have HNX := Lib.hid (show nextI ws.length r1 = nextI ws.length res ∧ ∀ p, res = some p → unE op x = p.1 by
          rw [HR.out]
          cases r1 with
          | none => exact ⟨rfl, fun p hp => by cases hp⟩
          | some p => exact ⟨rfl, fun q hq => by injection hq with hq; rw [← hq, hx p rfl]⟩)
        have HR3 := Lib.hid R3
        have HB3 := Lib.hid B3
        have HP3 := Lib.hid P3
        clear T1 HRES HB HR hp2 hb2 hx R3 B3 P3 hal c0 c1 c2' c3 f0 f1 f2 f3 IS1 SG1
        go_upto_region 6 with (fail)
        generalize w2.alloc (.cells #[.int .i64 x.op, .int .i64 x.n, .string x.name, .slice A2 x.kids.length cc] 24) = w3 at *
        have hal4 := (Below.refl w3.heap.size w3).alloc (Nat.le_refl _) (.cells #[.int .i64 x.op, .int .i64 x.n, .string x.name, .slice A2 x.kids.length cc] 24)
        have R4 := HR3.out.below hal4 HR3.out.lt
        have HP4 := Lib.hid (pd_lit (w := w3) (S := Between w3 wa.heap.size w3.heap.size) (S' := Between (w3.alloc (.cells #[.int .i64 x.op, .int .i64 x.n, .string x.name, .slice A2 x.kids.length cc] 24)) wa.heap.size (w3.alloc (.cells #[.int .i64 x.op, .int .i64 x.n, .string x.name, .slice A2 x.kids.length cc] 24)).heap.size) [⟨x, A2, cc⟩]
          ⟨by omega, by rw [World.size_alloc]; omega, ⟨_, _, heap_alloc_new _ _⟩⟩ (fun kd hkd => by simp at hkd; subst hkd; exact HP3.out) (fun b hb => hb.2.1) (fun b hb => ⟨hb.1, by rw [World.size_alloc]; have := hb.2.1; omega, hb.2.2.below hal4 hb.2.1⟩))
        have HB4 := Lib.hid (HB3.out.trans (hal4.mono HB3.out.size))
        obtain ⟨c0, c1, c2', c3⟩ := R4.c
        have f0 := R4.f 0
        have f1 := R4.f 1
        have f2 := R4.f 2
        have f3 := R4.f 3
        clear HR3 HB3 HP3 hal4 R4
        generalize nextI ws.length r1 = z1 at *
        go_wp2_with fail
        refine bodyPost_ret (v := .tuple #[.agg #[.int .i64 op, .int .i64 0, .string ⟨#[]⟩, .slice (some ⟨w3.heap.size, 0, none⟩) 1 1], .int .i64 z1]) (by simp [results, Tryz.results60, go_sem, c0, c1, c2', c3]) rfl ⟨unE op x, some ⟨w3.heap.size, 0, none⟩, 1, by rw [← HNX.out.1]; rfl, ?_, below_four HB4.out (Nat.le_refl _) _ _ _ _, HNX.out.2⟩
        have h := PdS.four' HP4.out (show w.heap.size < wa.heap.size by omega) (.int .i64 op) (.int .i64 0) (.string ⟨#[]⟩) (.slice (some ⟨w3.heap.size, 0, none⟩) 1 1)
        exact h.wide (by omega) (by simp)
    · obtain rfl : op = 13 := by omega
      have HA := Lib.hid (show aheadAt (ws.drop k) = none by rcases HO.out with h | h | h; omega; omega; exact h.2)
      clear HO hop2 SG
      by_cases hkl : k < ws.length
      · have HTA := Lib.hid (T_at (m := m) HA.out hkl)
        obtain ⟨b, o, rfl, hBb, d1, d2⟩ := HW.out.at_ hkl
        have hv4 := HV.out _ (List.getElem_mem hkl)
        have IS1 := IS k lpS (by omega)
        have IS2 := (IS (k + 1) lpS (by omega)).out
        rw [show ((k + 1 : Nat) : Int) = (k : Int) + 1 by omega] at IS2
        replace IS2 := Lib.hid IS2
        rw [isT_drop, dif_pos hkl] at IS1
        generalize rdT nmB (m + 1 + 1) (ws.drop k) = res at *
        generalize hz : ws[k].1 = z at *
        generalize ht : ws[k].2 = t at *
        clear hz ht HA HV
        by_cases hlp : t = lpS
        · rw [decide_eq_true hlp] at IS1
          have L1 := (HI.out m (by omega)).L 1 (k + 1) wa (by omega) (by omega) hkl (by omega) HW.out
          rw [show ((k + 1 : Nat) : Int) = (k : Int) + 1 by omega, show ((1 : Nat) : Int) = 1 from rfl] at L1
          replace L1 := Lib.hid L1
          have HLS := Lib.hid (fun e r => (rd_less nmB m).L 1 (ws.drop (k + 1)) e r (by omega))
          have HRS := Lib.hid (show res = (rdL nmB m 1 (ws.drop (k + 1))).bind fun p => if isT p.2 rpS = true then some (p.1, p.2.tail) else none by rw [HTA.out, if_pos hlp])
          clear HTA hlp IS2 d1 d2
          generalize rdL nmB m 1 (ws.drop (k + 1)) = r1 at *
          unfold lpS at IS1
          go_wp2_with fail
          (with_reducible refine Calls.mono IS1.out ?_)
          rintro ee w1 ⟨rfl, rfl⟩
          go_wp2_with fail
          (with_reducible refine Calls.mono L1.out ?_)
          rintro ee w2 ⟨x, A2, cc, rfl, hp2, hb2, hx⟩
          unfold exV
          have hal := (Below.refl w2.heap.size w2).alloc (Nat.le_refl _) (.cells #[.int .i64 x.op, .int .i64 x.n, .string x.name, .slice A2 x.kids.length cc] 24)
          have b0 := alloc_cell w2 #[.int .i64 x.op, .int .i64 x.n, .string x.name, .slice A2 x.kids.length cc] 24 (0, 0) 0
          have b1 := alloc_cell w2 #[.int .i64 x.op, .int .i64 x.n, .string x.name, .slice A2 x.kids.length cc] 24 (0, 0) 1
          have b2 := alloc_cell w2 #[.int .i64 x.op, .int .i64 x.n, .string x.name, .slice A2 x.kids.length cc] 24 (0, 0) 2
          have b3 := alloc_cell w2 #[.int .i64 x.op, .int .i64 x.n, .string x.name, .slice A2 x.kids.length cc] 24 (0, 0) 3
          replace b0 : (w2.alloc (.cells #[.int .i64 x.op, .int .i64 x.n, .string x.name, .slice A2 x.kids.length cc] 24)).cell? ⟨w2.heap.size, 0, none⟩ = some (.int .i64 x.op) := b0
          replace b1 : (w2.alloc (.cells #[.int .i64 x.op, .int .i64 x.n, .string x.name, .slice A2 x.kids.length cc] 24)).cell? ⟨w2.heap.size, 1, none⟩ = some (.int .i64 x.n) := b1
          replace b2 : (w2.alloc (.cells #[.int .i64 x.op, .int .i64 x.n, .string x.name, .slice A2 x.kids.length cc] 24)).cell? ⟨w2.heap.size, 2, none⟩ = some (.string x.name) := b2
          replace b3 : (w2.alloc (.cells #[.int .i64 x.op, .int .i64 x.n, .string x.name, .slice A2 x.kids.length cc] 24)).cell? ⟨w2.heap.size, 3, none⟩ = some (.slice A2 x.kids.length cc) := b3
          have hs2 := hb2.size
          have hba := hb2.trans (hal.mono hb2.size)
          have R3 := HRES.out.below hba hsz
          have HB3 := Lib.hid (HB.out.trans (hba.mono HB.out.size))
          have HP3 := Lib.hid (PdS.later hp2 hal (Nat.le_refl _) hal.size)
          have HW3 := Lib.hid ((HW.out.below hba).more hba.size)
          have HX := Lib.hid hx
          obtain ⟨c0, c1, c2', c3⟩ := R3.c
          have f0 := R3.f 0
          have f1 := R3.f 1
          have f2 := R3.f 2
          have f3 := R3.f 3
          clear L1 HRES HB hp2 hb2 hx R3 hal hba IS1 IS HI
          go_upto_region 9 with (fail)
          generalize w2.alloc (.cells #[.int .i64 x.op, .int .i64 x.n, .string x.name, .slice A2 x.kids.length cc] 24) = w3 at *
          have fin : ∀ (zz : Int), (zz = nextI ws.length res) → (∀ p, res = some p → x = p.1) → ∀ ww, ww = ((((w3.setCell ⟨w.heap.size, 0, none⟩ (.int .i64 x.op)).setCell ⟨w.heap.size, 1, none⟩ (.int .i64 x.n)).setCell ⟨w.heap.size, 2, none⟩ (.string x.name)).setCell ⟨w.heap.size, 3, none⟩ (.slice A2 x.kids.length cc)) →
              RdM ws.length res w (.returned (.tuple #[exV x A2 cc, .int .i64 zz])) ww := by
            intro zz hzz he ww hww
            subst hww
            refine ⟨x, A2, cc, by rw [hzz], ?_, below_four HB3.out (Nat.le_refl _) _ _ _ _, he⟩
            have h := PdS.four' HP3.out (show w.heap.size < wa.heap.size by omega) (.int .i64 x.op) (.int .i64 x.n) (.string x.name) (.slice A2 x.kids.length cc)
            exact h.wide (by omega) (by simp)
          have FIN := Lib.hid fin
          clear fin
          rcases hr1 : r1 with _ | ⟨x', r⟩
          · have hres := Lib.hid (show res = none by rw [HRS.out, hr1]; rfl)
            have e1 : nextI ws.length (none : Option (E × List W)) = -1 := rfl
            subst hr1
            rw [e1]
            clear e1 HRS HLS HX
            go_wp2_with fail
            refine bodyPost_ret (v := .tuple #[.agg #[.int .i64 x.op, .int .i64 x.n, .string x.name, .slice A2 x.kids.length cc], .int .i64 (-1)]) (by simp [results, Tryz.results60, go_sem, c0, c1, c2', c3]) rfl ?_
            exact FIN.out _ (by rw [hres.out]; rfl) (fun p hp => by rw [hres.out] at hp; cases hp) _ rfl
          · obtain ⟨a1, a2, _, _⟩ := HLS.out _ _ hr1
            obtain ⟨k2, q1, q2, q3, q4⟩ := suf_place a1 a2
            have hxx : x = x' := HX.out _ hr1
            subst hr1
            have e1 : nextI ws.length (some (x', r)) = (k2 : Int) := by show ((ws.length - r.length : Nat) : Int) = _; omega
            rw [e1]
            have IS3 := Lib.hid (l2Is_any _ ws cap k2 rpS w3 HW3.out hn (by omega))
            have HRS2 := Lib.hid (show res = if isT (ws.drop k2) rpS = true then some (x, ws.drop (k2 + 1)) else none by rw [HRS.out, hxx, ← tail_drop, ← q3]; rfl)
            clear e1 HRS HLS HX a1 a2 q3 q4 hxx HW3 HW
            cases hb : isT (ws.drop k2) rpS
            · rw [hb] at IS3 HRS2
              have hres := Lib.hid (show res = none from HRS2.out)
              clear hb HRS2
              unfold rpS at IS3
              go_wp2_with fail
              (with_reducible refine Calls.mono IS3.out ?_)
              rintro ee w4 ⟨rfl, rfl⟩
              go_wp2_with fail
              refine bodyPost_ret (v := .tuple #[.agg #[.int .i64 x.op, .int .i64 x.n, .string x.name, .slice A2 x.kids.length cc], .int .i64 (-1)]) (by simp [results, Tryz.results60, go_sem, c0, c1, c2', c3]) rfl ?_
              exact FIN.out _ (by rw [hres.out]; rfl) (fun p hp => by rw [hres.out] at hp; cases hp) _ rfl
            · rw [hb] at IS3 HRS2
              obtain ⟨hk3, _⟩ := isT_lt hb
              have hres := Lib.hid (show res = some (x, ws.drop (k2 + 1)) from HRS2.out)
              clear hb HRS2
              unfold rpS at IS3
              go_wp2_with fail
              (with_reducible refine Calls.mono IS3.out ?_)
              rintro ee w4 ⟨rfl, rfl⟩
              go_wp2_with fail
              refine bodyPost_ret (v := .tuple #[.agg #[.int .i64 x.op, .int .i64 x.n, .string x.name, .slice A2 x.kids.length cc], .int .i64 ((k2 : Int) + 1)]) (by simp [results, Tryz.results60, go_sem, c0, c1, c2', c3]) rfl ?_
              exact FIN.out _ (by rw [hres.out, nextI_at _ hk3]; omega) (fun p hp => by rw [hres.out] at hp; injection hp with hp; rw [← hp]) _ rfl
        · rw [decide_eq_false hlp] at IS1
          have HR1 := Lib.hid (show res = if z = 2 then some (numE (nmB t), ws.drop (k + 1))
            else if z = 1 then (if isT (ws.drop (k + 1)) lpS = true then (rdC nmB m (ws.drop (k + 2))).bind fun p => some (callE t p.1, p.2) else some (varE t, ws.drop (k + 1)))
            else none by rw [HTA.out, if_neg hlp])
          clear HTA hlp
          unfold lpS at IS1
          have leaf : ∀ (e : E) (zz : Int) (hk : e.kids = []), (zz = nextI ws.length res) → (∀ p, res = some p → e = p.1) → ∀ W ww, Below w.heap.size w W → ww = ((((W.setCell ⟨w.heap.size, 0, none⟩ (.int .i64 e.op)).setCell ⟨w.heap.size, 1, none⟩ (.int .i64 e.n)).setCell ⟨w.heap.size, 2, none⟩ (.string e.name)).setCell ⟨w.heap.size, 3, none⟩ (.slice none 0 0)) →
              RdM ws.length res w (.returned (.tuple #[.agg #[.int .i64 e.op, .int .i64 e.n, .string e.name, .slice none 0 0], .int .i64 zz])) ww := by
            intro e zz hk hzz he W ww hBW hww
            subst hww
            refine ⟨e, none, 0, ?_, ?_, below_four hBW (Nat.le_refl _) _ _ _ _, he⟩
            · unfold exV; rw [hk, hzz]; rfl
            · rw [hk]; exact .inl rfl
          have LF := Lib.hid leaf
          clear leaf
          by_cases hz2 : z = 2
          · subst hz2
            have hres := Lib.hid (show res = some (numE (nmB t), ws.drop (k + 1)) by rw [HR1.out, if_pos rfl])
            have NB := Lib.hid (specNumberOf_any 2 t wa (by omega))
            have e2 : numOfB 2 t = nmB t := by unfold numOfB; rw [if_pos rfl]; rfl
            rw [e2] at NB
            clear e2 HR1 IS2 IS HI hv4
            generalize nmB t = nv at *
            go_wp2_with fail
            (with_reducible refine Calls.mono IS1.out ?_)
            rintro ee w1 ⟨rfl, rfl⟩
            go_wp2_with fail
            (with_reducible refine Calls.mono NB.out ?_)
            rintro ee w2 ⟨rfl, hb2⟩
            have R2 := HRES.out.below hb2 hsz
            have HB2 := Lib.hid (HB.out.trans (hb2.mono HB.out.size))
            obtain ⟨c0, c1, c2', c3⟩ := R2.c
            have f0 := R2.f 0
            have f1 := R2.f 1
            have f2 := R2.f 2
            have f3 := R2.f 3
            clear R2 hb2 NB HRES HB
            go_wp2_with fail
            refine bodyPost_ret (v := .tuple #[.agg #[.int .i64 1, .int .i64 nv, .string ⟨#[]⟩, .slice none 0 0], .int .i64 ((k : Int) + 1)]) (by simp [results, Tryz.results60, go_sem, c0, c1, c2', c3]) rfl ?_
            exact LF.out (numE nv) _ rfl (by rw [hres.out, nextI_at _ hkl]; omega) (fun p hp => by rw [hres.out] at hp; injection hp with hp; rw [← hp]) _ _ HB2.out rfl
          · have b2 : (z == 2) = false := beq_no hz2
            by_cases hz1 : z = 1
            · subst hz1
              have HR2 := Lib.hid (show res = if isT (ws.drop (k + 1)) lpS = true then (rdC nmB m (ws.drop (k + 2))).bind fun p => some (callE t p.1, p.2) else some (varE t, ws.drop (k + 1)) by rw [HR1.out, if_neg (by omega), if_pos rfl])
              clear HR1 hz2
              cases hb : isT (ws.drop (k + 1)) lpS
              · rw [hb] at IS2 HR2
                have hres := Lib.hid (show res = some (varE t, ws.drop (k + 1)) from HR2.out)
                clear hb HR2 IS HI
                unfold lpS at IS2
                go_wp2_with fail
                (with_reducible refine Calls.mono IS1.out ?_)
                rintro ee w1 ⟨rfl, rfl⟩
                go_wp2_with fail
                (with_reducible refine Calls.mono IS2.out ?_)
                rintro ee w1 ⟨rfl, rfl⟩
                go_wp2_with fail
                refine bodyPost_ret (v := .tuple #[.agg #[.int .i64 2, .int .i64 0, .string t, .slice none 0 0], .int .i64 ((k : Int) + 1)]) (by simp [results, Tryz.results60, go_sem, c0, c1, c2', c3]) rfl ?_
                exact LF.out (varE t) _ rfl (by rw [hres.out, nextI_at _ hkl]; omega) (fun p hp => by rw [hres.out] at hp; injection hp with hp; rw [← hp]) _ _ HB.out rfl
              · rw [hb] at IS2 HR2
                obtain ⟨hk1, _⟩ := isT_lt hb
                have HR3 := Lib.hid (show res = (rdC nmB m (ws.drop (k + 2))).bind fun p => some (callE t p.1, p.2) from HR2.out)
                have C1 := (HI.out m (by omega)).C (k + 2) wa hk1 (by omega) HW.out
                rw [show ((k + 2 : Nat) : Int) = (k : Int) + 2 by omega] at C1
                replace C1 := Lib.hid C1
                clear hb HR2 IS HI LF
                generalize rdC nmB m (ws.drop (k + 2)) = r1 at *
                unfold lpS at IS2
                go_wp2_with fail
                (with_reducible refine Calls.mono IS1.out ?_)
                rintro ee w1 ⟨rfl, rfl⟩
                go_wp2_with fail
                (with_reducible refine Calls.mono IS2.out ?_)
                rintro ee w1 ⟨rfl, rfl⟩
                go_wp2_with fail
                (with_reducible refine Calls.mono C1.out ?_)
                rintro ee w2 ⟨ks, A2, cc, rfl, hp2, hb2, hks⟩
                have R2 := HRES.out.below hb2 hsz
                have d2' := (hb2.cell (p := ⟨b, o + k * 2 + 1, none⟩) hBb).trans d2
                have HB2 := Lib.hid (HB.out.trans (hb2.mono HB.out.size))
                have HP2 := Lib.hid hp2
                have HNX := Lib.hid (show nextI ws.length r1 = nextI ws.length res ∧ ∀ p, res = some p → callE t ks = p.1 by
                  rw [HR3.out]
                  cases r1 with
                  | none => exact ⟨rfl, fun p hp => by cases hp⟩
                  | some p => exact ⟨rfl, fun q hq => by injection hq with hq; rw [← hq, hks p rfl]⟩)
                obtain ⟨c0, c1, c2', c3⟩ := R2.c
                have f0 := R2.f 0
                have f1 := R2.f 1
                have f2 := R2.f 2
                have f3 := R2.f 3
                clear R2 hb2 hp2 hks C1 HRES HB HR3 d1 d2
                generalize nextI ws.length r1 = z1 at *
                go_wp2_with fail
                refine bodyPost_ret (v := .tuple #[.agg #[.int .i64 13, .int .i64 0, .string t, .slice A2 ks.length cc], .int .i64 z1]) (by simp [results, Tryz.results60, go_sem, c0, c1, c2', c3]) rfl ⟨callE t ks, A2, cc, by rw [← HNX.out.1]; rfl, ?_, below_four HB2.out (Nat.le_refl _) _ _ _ _, HNX.out.2⟩
                have h := PdS.four' HP2.out (show w.heap.size < wa.heap.size by omega) (.int .i64 13) (.int .i64 0) (.string t) (.slice A2 ks.length cc)
                exact h.wide (by omega) (by simp)
            · have b1 : (z != 1) = true := by rw [bne, beq_no hz1]; rfl
              have hres := Lib.hid (show res = none by rw [HR1.out, if_neg hz2, if_neg hz1])
              clear HR1 hz1 hz2 IS HI IS2
              go_wp2_with fail
              (with_reducible refine Calls.mono IS1.out ?_)
              rintro ee w1 ⟨rfl, rfl⟩
              go_wp2_with fail
              refine bodyPost_ret (v := .tuple #[.agg #[.int .i64 0, .int .i64 0, .string ⟨#[]⟩, .slice none 0 0], .int .i64 (-1)]) (by simp [results, Tryz.results60, go_sem, c0, c1, c2', c3]) rfl ?_
              exact LF.out (.mk 0 0 ⟨#[]⟩ []) _ rfl (by rw [hres.out]; rfl) (fun p hp => by rw [hres.out] at hp; cases hp) _ _ HB.out rfl
      · have hres := Lib.hid (T_end (m := m) HA.out hkl)
        have IS1 := IS k lpS (by omega)
        rw [isT_drop, dif_neg hkl] at IS1
        unfold lpS at IS1
        clear IS HI HV HA HW HRES
        generalize rdT nmB (m + 1 + 1) (ws.drop k) = res at *
        go_wp2_with fail
        (with_reducible refine Calls.mono IS1.out ?_)
        rintro ee w1 ⟨rfl, rfl⟩
        go_wp2_with fail
        refine bodyPost_ret (v := .tuple #[.agg #[.int .i64 0, .int .i64 0, .string ⟨#[]⟩, .slice none 0 0], .int .i64 (-1)]) (by simp [results, Tryz.results60, go_sem, c0, c1, c2', c3]) rfl ⟨.mk 0 0 ⟨#[]⟩ [], none, 0, by rw [hres.out]; rfl, .inl rfl, below_four HB.out (Nat.le_refl _) _ _ _ _, fun p hp => by rw [hres.out] at hp; cases hp⟩

end Go.Proofs.YtkhcfhhejmkikaaGreatDoor

namespace Go.Proofs.YtkhcfhhejmkikaaGreatDoor
open Go.RowKit
set_option maxRecDepth 100000

theorem took5_none {ws : List W} (h : ∀ j : Int, 3 ≤ j → j < 13 → hitO 5 ws j = false) : aheadAt ws = none := by
  have h11 : isT ws (sgnS 11) = false := by have := h 11 (by omega) (by omega); unfold hitO at this; rw [show lvl 11 = 5 from rfl] at this; simpa using this
  have h12 : isT ws (sgnS 12) = false := by have := h 12 (by omega) (by omega); unfold hitO at this; rw [show lvl 12 = 5 from rfl] at this; simpa using this
  rw [aheadAt_eq, h11, h12, if_neg (by simp), if_neg (by simp)]
theorem took5_some {ws : List W} {op : Int} (h3 : 3 ≤ op) (h12 : op ≤ 12) (h : hitO 5 ws op = true) (hno : ∀ j : Int, 3 ≤ j → j < op → hitO 5 ws j = false) : aheadAt ws = some op := by
  unfold hitO at h
  rw [Bool.and_eq_true, decide_eq_true_eq] at h
  have hop : op = 11 ∨ op = 12 := by
    by_cases e : op = 11 ∨ op = 12
    · exact e
    · exfalso
      have h1 := h.1
      unfold lvl at h1
      (repeat' split at h1) <;> omega
  rcases hop with rfl | rfl
  · rw [aheadAt_eq, h.2, if_pos rfl]
  · have h11 : isT ws (sgnS 11) = false := by have := hno 11 (by omega) (by omega); unfold hitO at this; rw [show lvl 11 = 5 from rfl] at this; simpa using this
    rw [aheadAt_eq, h11, h.2, if_neg (by simp), if_pos rfl]
set_option maxHeartbeats 8000000 in
theorem readAhead_of (R cap k m : Nat) (A : Option Addr) (ws : List W) (w : World) (hn : ws.length ≤ 600) (h : XR w R A cap ws k) (G : Rts R w)
    (HT : ∀ (k' : Nat) (W : World), k < k' → XR W R A cap ws k' → Rts R W → Calls Tryz.prog 64 #[.pointer (some ⟨R + 1, 0, none⟩)] W (PRet R cap A ws (rdT nmB m (ws.drop k')) W))
    (HW : ∀ (W : World), XR W R A cap ws k → Rts R W → Calls Tryz.prog 66 #[.pointer (some ⟨R + 1, 0, none⟩)] W (PRet R cap A ws (rdW nmB m (ws.drop k)) W)) :
    Calls Tryz.prog 65 #[.pointer (some ⟨R, 0, none⟩)] w (PRet R cap A ws (rdT nmB (m + 1) (ws.drop k)) w) := by
  have hb0 := (Below.refl w.heap.size w).alloc (Nat.le_refl _) (.cells #[.int .i64 0, .int .i64 0, .string ⟨#[]⟩, .slice none 0 0] 24)
  have R0 := Lib.hid (Res.new w (.int .i64 0) (.int .i64 0) (.string ⟨#[]⟩) (.slice none 0 0) 24)
  have hz0 : (w.alloc (.cells #[.int .i64 0, .int .i64 0, .string ⟨#[]⟩, .slice none 0 0] 24)).heap.size = w.heap.size + 1 := World.size_alloc _ _
  have X0 := h.below hb0
  have HM0 := Lib.hid (Mv.of_below (R := R) hb0 h.cu.lt)
  have hlt := h.cu.lt
  have hrs := h.sz
  have TO := takeOp_any R cap k 5 A ws _ X0.cu hn (G.mv (Mv.of_below (R := R) hb0 h.cu.lt)).sgn
  rw [show ((5 : Nat) : Int) = 5 from rfl] at TO
  replace TO := Lib.hid TO
  have HX0 := Lib.hid X0
  have HG := Lib.hid (show ∀ W, Mv R w W → Rts R W from fun W hm => G.mv hm)
  have HTT := Lib.hid HT
  have HWW := Lib.hid HW
  clear h X0 hb0 HT HW G
  go_enter Tryz.func65, Tryz.ntmps65
  go_wp2_with fail
  (with_reducible refine Calls.mono TO.out ?_)
  rintro ee w4 hto
  clear TO
  rcases hto with ⟨op, ho3, ho12, rfl, hhit, hno, hm4, hc4⟩ | ⟨rfl, hno, hm4, hc4⟩
  · have HRD := Lib.hid (T_un (m := m) (took5_some ho3 ho12 hhit hno))
    have XR4 := HX0.out.mv hm4 hc4
    have HM4 := Lib.hid (HM0.out.trans hm4)
    have R4 := Lib.hid (R0.out.mv hm4 hlt)
    have C5 := Lib.hid (HTT.out (k + 1) w4 (Nat.lt_succ_self _) XR4 (HG.out w4 HM4.out))
    have d7 := XR4.cl 5 (by omega) (by omega)
    unfold climbV at d7
    rw [if_pos rfl] at d7
    have hs4 := hm4.1.below.size
    clear hhit hno hm4 hc4 R0 HM0 HX0 HTT HWW HG XR4
    generalize rdT nmB (m + 1) (ws.drop k) = res at *
    generalize rdT nmB m (ws.drop (k + 1)) = r1 at *
    go_wp2_with fail
    (with_reducible refine Calls.mono C5.out ?_)
    rintro ee w5 ⟨hm5, ⟨k5, hc5, hd5⟩, x, A5, c5, rfl, hp5, hx⟩
    unfold exV
    have hs5 := hm5.1.below.size
    have HM5 := Lib.hid (HM4.out.trans hm5)
    have R5 := R4.out.mv hm5 hlt
    have hal := (Below.refl w5.heap.size w5).alloc (Nat.le_refl _) (.cells #[.int .i64 x.op, .int .i64 x.n, .string x.name, .slice A5 x.kids.length c5] 24)
    have b0 := alloc_cell w5 #[.int .i64 x.op, .int .i64 x.n, .string x.name, .slice A5 x.kids.length c5] 24 (0, 0) 0
    have b1 := alloc_cell w5 #[.int .i64 x.op, .int .i64 x.n, .string x.name, .slice A5 x.kids.length c5] 24 (0, 0) 1
    have b2 := alloc_cell w5 #[.int .i64 x.op, .int .i64 x.n, .string x.name, .slice A5 x.kids.length c5] 24 (0, 0) 2
    have b3 := alloc_cell w5 #[.int .i64 x.op, .int .i64 x.n, .string x.name, .slice A5 x.kids.length c5] 24 (0, 0) 3
    replace b0 : (w5.alloc (.cells #[.int .i64 x.op, .int .i64 x.n, .string x.name, .slice A5 x.kids.length c5] 24)).cell? ⟨w5.heap.size, 0, none⟩ = some (.int .i64 x.op) := b0
    replace b1 : (w5.alloc (.cells #[.int .i64 x.op, .int .i64 x.n, .string x.name, .slice A5 x.kids.length c5] 24)).cell? ⟨w5.heap.size, 1, none⟩ = some (.int .i64 x.n) := b1
    replace b2 : (w5.alloc (.cells #[.int .i64 x.op, .int .i64 x.n, .string x.name, .slice A5 x.kids.length c5] 24)).cell? ⟨w5.heap.size, 2, none⟩ = some (.string x.name) := b2
    replace b3 : (w5.alloc (.cells #[.int .i64 x.op, .int .i64 x.n, .string x.name, .slice A5 x.kids.length c5] 24)).cell? ⟨w5.heap.size, 3, none⟩ = some (.slice A5 x.kids.length c5) := b3
    have hlt5 : R < w5.heap.size := by omega
    have R6 := Lib.hid (R5.below hal R5.lt)
    have HM6 := Lib.hid (HM5.out.trans (Mv.of_below hal hlt5))
    have HC6 := Lib.hid (hc5.below hal)
    have HP6 := Lib.hid (PdD.later hp5 hal (Nat.le_refl _) hal.size)
    have hs6 := hal.size
    have HX := Lib.hid hx
    have HD := Lib.hid hd5
    clear R4 HM4 C5 hm5 hc5 hd5 hp5 hx R5 hal HM5 d7
    cases r1 with
    | none =>
      have hres := Lib.hid (show res = none from HRD.out)
      clear HRD HX HD HP6
      obtain ⟨c0, c1, c2', c3⟩ := R6.out.c
      have f0 := R6.out.f 0
      have f1 := R6.out.f 1
      have f2 := R6.out.f 2
      have f3 := R6.out.f 3
      go_upto_region 5 with (fail)
      generalize w5.alloc (.cells #[.int .i64 x.op, .int .i64 x.n, .string x.name, .slice A5 x.kids.length c5] 24) = w6 at *
      go_wp2_with fail
      refine bodyPost_ret (v := .tuple #[.agg #[.int .i64 0, .int .i64 0, .string ⟨#[]⟩, .slice none 0 0], .bool false]) (by simp [results, Tryz.results65, go_sem, c0, c1, c2', c3]) rfl ?_
      rw [hres.out]
      exact pret_store (res := none) (e := E.none) (A' := none) (c := 0) (lo := w.heap.size + 1) hlt HM6.out HC6.out (fun p hp => by cases hp) (.inl rfl) (Nat.lt_succ_self _) (fun p hp => by cases hp)
    | some p =>
      obtain ⟨x', r⟩ := p
      obtain rfl : x = x' := HX.out _ rfl
      have hd := HD.out _ rfl
      dsimp only at hd
      have hres := Lib.hid (show res = some (unE op x, ws.drop k5) by rw [hd]; exact HRD.out)
      clear HRD HX HD hd
      go_upto_region 5 with (fail)
      generalize w5.alloc (.cells #[.int .i64 x.op, .int .i64 x.n, .string x.name, .slice A5 x.kids.length c5] 24) = w6 at *
      have hal7 := (Below.refl w6.heap.size w6).alloc (Nat.le_refl _) (.cells #[.int .i64 x.op, .int .i64 x.n, .string x.name, .slice A5 x.kids.length c5] 24)
      have R7 := R6.out.below hal7 R6.out.lt
      have X8 := Lib.hid (res_four R6.out (.int .i64 op) (.int .i64 0) (.string ⟨#[]⟩) (.slice (some ⟨w6.heap.size, 0, none⟩) 1 1))
      have M8 := Lib.hid (HM6.out.four (b := w.heap.size) (Nat.le_refl _) hlt (.int .i64 op) (.int .i64 0) (.string ⟨#[]⟩) (.slice (some ⟨w6.heap.size, 0, none⟩) 1 1))
      have C8 := Lib.hid (HC6.out.four (b := w.heap.size) hlt (.int .i64 op) (.int .i64 0) (.string ⟨#[]⟩) (.slice (some ⟨w6.heap.size, 0, none⟩) 1 1))
      have P8 := Lib.hid (PdD.four' HP6.out (show w.heap.size < w4.heap.size by omega) (.int .i64 op) (.int .i64 0) (.string ⟨#[]⟩) (.slice (some ⟨w6.heap.size, 0, none⟩) 1 1))
      have HZ8 := Lib.hid (show ((((w6.setCell ⟨w.heap.size, 0, none⟩ (.int .i64 op)).setCell ⟨w.heap.size, 1, none⟩ (.int .i64 0)).setCell ⟨w.heap.size, 2, none⟩ (.string ⟨#[]⟩)).setCell ⟨w.heap.size, 3, none⟩ (.slice (some ⟨w6.heap.size, 0, none⟩) 1 1)).heap.size = w6.heap.size by simp)
      obtain ⟨c0, c1, c2', c3⟩ := R7.c
      have f0 := R7.f 0
      have f1 := R7.f 1
      have f2 := R7.f 2
      have f3 := R7.f 3
      have k0 := R6.out.c.1
      have k1 := R6.out.c.2.1
      have k2 := R6.out.c.2.2.1
      have k3 := R6.out.c.2.2.2
      have l0 := R6.out.f 0
      have l1 := R6.out.f 1
      have l2 := R6.out.f 2
      have l3 := R6.out.f 3
      have hwl := R6.out.lt
      clear R7 hal7 HP6 HM6 HC6
      go_wp2_with fail
      clear c0 c1 c2' c3 f0 f1 f2 f3 k0 k1 k2 k3 l0 l1 l2 l3
      generalize ((((w6.setCell ⟨w.heap.size, 0, none⟩ (.int .i64 op)).setCell ⟨w.heap.size, 1, none⟩ (.int .i64 0)).setCell ⟨w.heap.size, 2, none⟩ (.string ⟨#[]⟩)).setCell ⟨w.heap.size, 3, none⟩ (.slice (some ⟨w6.heap.size, 0, none⟩) 1 1)) = w8 at *
      have hal8 := (Below.refl w8.heap.size w8).alloc (Nat.le_refl _) (.cells #[.int .i64 x.op, .int .i64 x.n, .string x.name, .slice A5 x.kids.length c5] 24)
      have R8 := X8.out.below hal8 X8.out.lt
      obtain ⟨c0, c1, c2', c3⟩ := R8.c
      have P9 := pdd_lit (w := w8) (S := Between w8 w4.heap.size w6.heap.size) (S' := Between (w8.alloc (.cells #[.int .i64 x.op, .int .i64 x.n, .string x.name, .slice A5 x.kids.length c5] 24)) w.heap.size (w8.alloc (.cells #[.int .i64 x.op, .int .i64 x.n, .string x.name, .slice A5 x.kids.length c5] 24)).heap.size) (fun _ => 0) [⟨x, A5, c5⟩]
        ⟨by have := HZ8.out; omega, by rw [World.size_alloc]; omega, ⟨_, _, heap_alloc_new _ _⟩⟩ (fun j hj => by (obtain rfl : j = 0 := (by simpa using hj)); exact P8.out.keep (fun _ _ _ => rfl) (fun b h => ⟨h, rfl⟩)) (fun b hb => by have := hb.2.1; have := HZ8.out; omega) (fun b hb => ⟨by have := hb.1; omega, by rw [World.size_alloc]; have := hb.2.1; have := HZ8.out; omega, hb.2.2.below hal8 (by have := hb.2.1; have := HZ8.out; omega)⟩)
      rw [HZ8.out] at P9
      have HP9 := Lib.hid P9
      have hr8 : R < w8.heap.size := by have := HZ8.out; omega
      have HF := Lib.hid (show PRet R cap A ws res w (.returned (.tuple #[.agg #[.int .i64 op, .int .i64 0, .string ⟨#[]⟩, .slice (some ⟨w6.heap.size, 0, none⟩) 1 1], .bool true])) (w8.alloc (.cells #[.int .i64 x.op, .int .i64 x.n, .string x.name, .slice A5 x.kids.length c5] 24)) from by
        rw [hres.out]
        exact ⟨M8.out.trans (Mv.of_below hal8 hr8), ⟨k5, C8.out.below hal8, fun p hp => by injection hp with hp; rw [← hp]⟩, unE op x, some ⟨w6.heap.size, 0, none⟩, 1, rfl, HP9.out, fun p hp => by injection hp with hp; rw [← hp]⟩)
      clear P9 hal8 R8
      refine bodyPost_ret (v := .tuple #[.agg #[.int .i64 op, .int .i64 0, .string ⟨#[]⟩, .slice (some ⟨w6.heap.size, 0, none⟩) 1 1], .bool true]) (by simp [results, Tryz.results65, go_sem, c0, c1, c2', c3]) rfl ?_
      exact HF.out
  · have HRD := Lib.hid (rdT_ahead (nm := nmB) (m := m) (took5_none hno))
    have XR4 := HX0.out.mv hm4 hc4
    have HM4 := Lib.hid (HM0.out.trans hm4)
    have R4 := Lib.hid (R0.out.mv hm4 hlt)
    have C5 := Lib.hid (HWW.out w4 XR4 (HG.out w4 HM4.out))
    have d7 := XR4.cl 6 (by omega) (by omega)
    unfold climbV at d7
    rw [if_neg (by omega), if_pos rfl] at d7
    have hs4 := hm4.1.below.size
    clear hno hm4 hc4 R0 HM0 HX0 HTT HWW HG XR4
    generalize rdT nmB (m + 1) (ws.drop k) = res at *
    generalize rdW nmB m (ws.drop k) = r1 at *
    obtain rfl := HRD.out
    go_wp2_with fail
    (with_reducible refine Calls.mono C5.out ?_)
    rintro ee w5 ⟨hm5, ⟨k5, hc5, hd5⟩, x, A5, c5, rfl, hp5, hx⟩
    unfold exV
    have R5 := R4.out.mv hm5 hlt
    have HP5 := Lib.hid (PdD.wide (lo' := w.heap.size + 1) hp5 (by omega) (Nat.le_refl _))
    have HF := Lib.hid (pret_store (c := c5) hlt (HM4.out.trans hm5) hc5 hd5 HP5.out (Nat.lt_succ_self _) hx)
    obtain ⟨c0, c1, c2', c3⟩ := R5.c
    have f0 := R5.f 0
    have f1 := R5.f 1
    have f2 := R5.f 2
    have f3 := R5.f 3
    clear R4 HM4 C5 hm5 hc5 hd5 hp5 hx HP5 R5 d7 HRD
    generalize res.isSome = bb at *
    go_wp2_with fail
    refine bodyPost_ret (v := .tuple #[.agg #[.int .i64 x.op, .int .i64 x.n, .string x.name, .slice A5 x.kids.length c5], .bool bb]) (by simp [results, Tryz.results65, go_sem, c0, c1, c2', c3]) rfl ?_
    exact HF.out
end Go.Proofs.YtkhcfhhejmkikaaGreatDoor

namespace Go.Proofs.YtkhcfhhejmkikaaGreatDoor
open Go.RowKit
set_option maxRecDepth 100000

/-- Where a list of Kids stands. -/
def KRel (w0 : World) (ws : List W) (m : Nat) (res : Option (List E × List W)) (k : Nat) (v : Value) (acc : List E) (wr : World) : Prop :=
  k ≤ ws.length ∧ DrK wr w0.heap.size v acc ∧ Below w0.heap.size w0 wr ∧ acc.length ≤ k ∧ ∃ m', m' ≤ m ∧ 10 * (ws.length - k) + 11 ≤ m' ∧ rdK nmB m' acc (ws.drop k) = res
set_option maxHeartbeats 8000000 in
theorem l2List_of (A : Option Addr) (cap : Nat) (ws : List W) (m : Nat) (hn : ws.length ≤ 600) (IH : ModU A cap ws m) (k : Nat) (w : World) (hk : k ≤ ws.length) (hm : 10 * (ws.length - k) + 12 ≤ m + 1) (hW : Words w w.heap.size A ws) :
    Calls Tryz.prog 98 #[.slice A ws.length cap, .int .i64 (k : Int)] w (KsM ws.length (rdC nmB (m + 1) (ws.drop k)) w) := by
  obtain ⟨i0, hi, hz0, hz1, hz2⟩ := info_parts exprInfo
  have hb0 := (Below.refl w.heap.size w).alloc (Nat.le_refl _) (.cells #[] 24)
  have D0 := Lib.hid (show DrK (w.alloc (.cells #[] 24)) w.heap.size (.slice (some ⟨w.heap.size, 0, none⟩) 0 0) [] from DrK.lit (w := w) (lo := w.heap.size) [] (Nat.le_refl _) (by simp) (by simp))
  have IS0 := Lib.hid (l2Is_any A ws cap k rpS _ ((hW.below hb0).more hb0.size) hn (by omega))
  have HI := Lib.hid IH
  have HW := Lib.hid hW
  have HB := Lib.hid hb0
  have HRC := Lib.hid (rdC_eq nmB m (ws.drop k))
  clear IH hW hb0
  generalize rdC nmB (m + 1) (ws.drop k) = res at *
  go_enter Tryz.func98, Tryz.ntmps98
  go_wp2_with fail
  generalize w.alloc (.cells #[] 24) = wa at *
  unfold rpS at IS0
  cases hb : isT (ws.drop k) rpS
  · have hbb := Lib.hid hb
    unfold rpS at hb
    rw [hb] at IS0
    have HKR := Lib.hid (show rdK nmB m [] (ws.drop k) = res by rw [HRC.out, hbb.out, if_neg (by simp)])
    clear hb HRC hbb
    go_wp2_with fail
    (with_reducible refine Calls.mono IS0.out ?_)
    rintro ee w1 ⟨rfl, rfl⟩
    clear IS0
    have HS := Lib.hid (show KRel w ws m res k (.slice (some ⟨w.heap.size, 0, none⟩) 0 0) [] wa from ⟨hk, D0.out, HB.out, Nat.zero_le _, m, Nat.le_refl _, by omega, HKR.out⟩)
    have hk0 := Lib.hid hk
    clear D0 HB HKR hm hk
    go_wp2_with fail
    go_loopw [1, 6] (fun i v wr => ∃ (kk : Nat) (acc : List E), i = .int .i64 (kk : Int) ∧ KRel w ws m res kk v acc wr) (fun i _ _ => ws.length + 1 - (intOf i).toNat)
    case atStart => exact ⟨k, [], rfl, HS.out⟩
    case round =>
      clear HS
      obtain ⟨kk, acc, rfl, hkk, hD, hB, hacc, m', hm', ham, hK⟩ := hrel
      obtain ⟨q, rfl⟩ : ∃ q, m' = q + 1 := ⟨m' - 1, by omega⟩
      rw [rdK_eq] at hK
      obtain ⟨Av, cv, rfl⟩ := hD.slice
      have HOWN := Lib.hid hD.owned
      have L1 := (HI.out q (by omega)).L 1 kk wr (by omega) (by omega) hkk (by omega) ((HW.out.below hB).more hB.size)
      rw [show ((1 : Nat) : Int) = 1 from rfl] at L1
      replace L1 := Lib.hid L1
      have HLS := Lib.hid (fun e r => (rd_less nmB q).L 1 (ws.drop kk) e r (by omega))
      have HK := Lib.hid hK
      have HD := Lib.hid hD
      have HBr := Lib.hid hB
      have hsw := hB.size
      clear hK hD hB
      generalize rdL nmB q 1 (ws.drop kk) = r1 at *
      go_wp2_with fail
      (with_reducible refine Calls.mono L1.out ?_)
      rintro ee w2 ⟨x, A2, cc, rfl, hp2, hb2, hx⟩
      unfold exV
      have hal := (Below.refl w2.heap.size w2).alloc (Nat.le_refl _) (.cells #[.int .i64 x.op, .int .i64 x.n, .string x.name, .slice A2 x.kids.length cc] 24)
      have b0 := alloc_cell w2 #[.int .i64 x.op, .int .i64 x.n, .string x.name, .slice A2 x.kids.length cc] 24 (0, 0) 0
      have b1 := alloc_cell w2 #[.int .i64 x.op, .int .i64 x.n, .string x.name, .slice A2 x.kids.length cc] 24 (0, 0) 1
      have b2 := alloc_cell w2 #[.int .i64 x.op, .int .i64 x.n, .string x.name, .slice A2 x.kids.length cc] 24 (0, 0) 2
      have b3 := alloc_cell w2 #[.int .i64 x.op, .int .i64 x.n, .string x.name, .slice A2 x.kids.length cc] 24 (0, 0) 3
      replace b0 : (w2.alloc (.cells #[.int .i64 x.op, .int .i64 x.n, .string x.name, .slice A2 x.kids.length cc] 24)).cell? ⟨w2.heap.size, 0, none⟩ = some (.int .i64 x.op) := b0
      replace b1 : (w2.alloc (.cells #[.int .i64 x.op, .int .i64 x.n, .string x.name, .slice A2 x.kids.length cc] 24)).cell? ⟨w2.heap.size, 1, none⟩ = some (.int .i64 x.n) := b1
      replace b2 : (w2.alloc (.cells #[.int .i64 x.op, .int .i64 x.n, .string x.name, .slice A2 x.kids.length cc] 24)).cell? ⟨w2.heap.size, 2, none⟩ = some (.string x.name) := b2
      replace b3 : (w2.alloc (.cells #[.int .i64 x.op, .int .i64 x.n, .string x.name, .slice A2 x.kids.length cc] 24)).cell? ⟨w2.heap.size, 3, none⟩ = some (.slice A2 x.kids.length cc) := b3
      have hs2 := hb2.size
      have hba := hb2.trans (hal.mono hb2.size)
      have HP3 := Lib.hid (PdS.later hp2 hal (Nat.le_refl _) hal.size)
      have HD3 := Lib.hid (HD.out.below hba (Nat.le_refl _))
      have HB3 := Lib.hid (HBr.out.trans (hba.mono HBr.out.size))
      have hs3 := hal.size
      have HX := Lib.hid hx
      clear L1 hp2 hb2 hx hal hba HD HBr
      go_upto_region 5 with (fail)
      generalize w2.alloc (.cells #[.int .i64 x.op, .int .i64 x.n, .string x.name, .slice A2 x.kids.length cc] 24) = w3 at *
      -- the row of one, and the append
      have hal4 := (Below.refl w3.heap.size w3).alloc (Nat.le_refl _) (.cells #[.int .i64 x.op, .int .i64 x.n, .string x.name, .slice A2 x.kids.length cc] 24)
      obtain ⟨xs, ho, hxx⟩ := HD3.out.below hal4 (Nat.le_refl _)
      have HOW := Lib.hid ho
      have HXX := Lib.hid hxx
      have HNW := Lib.hid (new_four w3 (.int .i64 x.op) (.int .i64 x.n) (.string x.name) (.slice A2 x.kids.length cc) 24)
      have HTO := Lib.hid (kid_cells x A2 cc)
      have hbz : w.heap.size ≤ (w3.alloc (.cells #[.int .i64 x.op, .int .i64 x.n, .string x.name, .slice A2 x.kids.length cc] 24)).heap.size := by have := hal4.size; omega
      have HLB := Lib.hid (show (acc.length + 1 ≤ maxLen ∧ (acc.length + 1) * 56 ≤ 140737488355328) from ⟨by unfold maxLen; omega, by omega⟩)
      have HK4 := Lib.hid ((show PdS (w3.alloc (.cells #[.int .i64 x.op, .int .i64 x.n, .string x.name, .slice A2 x.kids.length cc] 24)) (fun b => Between (w3.alloc (.cells #[.int .i64 x.op, .int .i64 x.n, .string x.name, .slice A2 x.kids.length cc] 24)) w.heap.size (w3.alloc (.cells #[.int .i64 x.op, .int .i64 x.n, .string x.name, .slice A2 x.kids.length cc] 24)).heap.size b ∧ (Value.slice Av acc.length cv).ownBlock ≠ some b) x.kids A2 from
        (PdS.later HP3.out hal4 (Nat.le_refl _) hal4.size).keep (fun _ _ _ => rfl) (fun b hb => ⟨⟨by have := hb.1; omega, hb.2⟩, fun e => by have := HOWN.out b e; have := hb.1; omega⟩)))
      have HB4 := Lib.hid (HB3.out.trans (hal4.mono HB3.out.size))
      clear ho hxx hal4 HD3 HP3 HB3
      go_upto_region 6 with (at_builtin; refine wpList_append_lies _ rfl _ _ 22 rfl w.heap.size 24 i0 (.agg #[.int .i64 0, .int .i64 0, .string ⟨#[]⟩, .slice none 0 0]) 4 56 Tryz.underlying22 hi hz0 hz1 hz2 rfl (by decide) _ acc.length xs rfl HOW.out ⟨w3.heap.size, 0, none⟩ 1 1 (Kd.mk x A2 cc).cells rfl rfl HNW.out HTO.out (by decide) HLB.out.1 HLB.out.2 hbz _ rfl ?_; intro g8 cap8 w8 hown8 hgrow8 hat8 hlt8)
      have HD8 := Lib.hid (DrK.snoc (w := (w3.alloc (.cells #[.int .i64 x.op, .int .i64 x.n, .string x.name, .slice A2 x.kids.length cc] 24))) ⟨x, A2, cc⟩ HXX.out HOW.out.1 rfl hown8 hgrow8 hat8 HK4.out)
      have HB8 := Lib.hid (HB4.out.grown hgrow8 (by omega) (fun k e => by have := HOWN.out k e; omega))
      clear hown8 hgrow8 hat8 hlt8 HK4 HB4 HOW HXX HNW HTO HLB hbz b0 b1 b2 b3
      have HWr := Lib.hid ((HW.out.below HB8.out).more HB8.out.size)
      have hlen : (acc ++ [x]).length = acc.length + 1 := by simp
      rcases hr1 : r1 with _ | ⟨x', r⟩
      · have hres := Lib.hid (show res = none by rw [← HK.out, hr1]; rfl)
        have e1 : nextI ws.length (none : Option (E × List W)) = -1 := rfl
        subst hr1
        rw [e1]
        have ST := Lib.hid (l1Step_any (-1) w8)
        rw [if_pos (by omega)] at ST
        have hm1 : (-1 : Int) < 0 := by decide
        clear e1 HK HLS HX
        go_wp2_with fail
        (with_reducible refine Calls.mono ST.out ?_)
        rintro ee w9 ⟨rfl, rfl⟩
        go_wp2_with fail
        go_ret2
        exact ⟨acc ++ [x], _, _, by rw [hres.out, hlen]; rfl, HD8.out.pd, HB8.out, fun p hp => by rw [hres.out] at hp; cases hp⟩
      · obtain ⟨a1, a2, _, _⟩ := HLS.out _ _ hr1
        obtain ⟨k2, q1, q2, q3, q4⟩ := suf_place a1 a2
        obtain rfl : x = x' := HX.out _ hr1
        subst hr1
        have e1 : nextI ws.length (some (x, r)) = (k2 : Int) := by show ((ws.length - r.length : Nat) : Int) = _; omega
        rw [e1]
        have HK2 := Lib.hid (show res = if isT (ws.drop k2) rpS = true then some (acc ++ [x], ws.drop (k2 + 1)) else if isT (ws.drop k2) cmS = true then rdK nmB q (acc ++ [x]) (ws.drop (k2 + 1)) else none by
          rw [← HK.out, ← tail_drop, ← q3]; rfl)
        have ISr := Lib.hid (l2Is_any A ws cap k2 rpS w8 HWr.out hn (by omega))
        have ISc := Lib.hid (l2Is_any A ws cap k2 cmS w8 HWr.out hn (by omega))
        clear e1 HK HLS HX a1 a2 q3 q4
        cases hb : isT (ws.drop k2) rpS
        · rw [hb] at ISr HK2
          unfold rpS at ISr
          cases hc : isT (ws.drop k2) cmS
          · rw [hc] at ISc HK2
            have hres := Lib.hid (show res = none from HK2.out)
            unfold cmS at ISc
            clear hb hc HK2
            go_wp2_with fail
            (with_reducible refine Calls.mono ISr.out ?_)
            rintro ee w9 ⟨rfl, rfl⟩
            go_wp2_with fail
            (with_reducible refine Calls.mono ISc.out ?_)
            rintro ee w9 ⟨rfl, rfl⟩
            go_wp2_with fail
            go_ret2
            exact ⟨acc ++ [x], _, _, by rw [hres.out, hlen]; rfl, HD8.out.pd, HB8.out, fun p hp => by rw [hres.out] at hp; cases hp⟩
          · rw [hc] at ISc HK2
            obtain ⟨hk3, _⟩ := isT_lt hc
            have hres := Lib.hid (show rdK nmB q (acc ++ [x]) (ws.drop (k2 + 1)) = res from HK2.out.symm)
            unfold cmS at ISc
            clear hb hc HK2
            go_wp2_with fail
            (with_reducible refine Calls.mono ISr.out ?_)
            rintro ee w9 ⟨rfl, rfl⟩
            go_wp2_with fail
            (with_reducible refine Calls.mono ISc.out ?_)
            rintro ee w9 ⟨rfl, rfl⟩
            go_wp2_with fail
            go_roundw
            case rel => exact ⟨k2 + 1, acc ++ [x], by go_num, hk3, HD8.out, HB8.out, by omega, q, by omega, by omega, hres.out⟩
            case measure => simp only [intOf]; omega
        · rw [hb] at ISr HK2
          obtain ⟨hk3, _⟩ := isT_lt hb
          have hres := Lib.hid (show res = some (acc ++ [x], ws.drop (k2 + 1)) from HK2.out)
          have ST := Lib.hid (l1Step_any (k2 : Int) w8)
          rw [if_neg (by omega)] at ST
          unfold rpS at ISr
          clear hb HK2
          go_wp2_with fail
          (with_reducible refine Calls.mono ISr.out ?_)
          rintro ee w9 ⟨rfl, rfl⟩
          go_wp2_with fail
          (with_reducible refine Calls.mono ST.out ?_)
          rintro ee w9 ⟨rfl, rfl⟩
          go_wp2_with fail
          go_ret2
          exact ⟨acc ++ [x], _, _, by rw [hres.out, nextI_at _ hk3, hlen]; exact tup_int (by omega), HD8.out.pd, HB8.out, fun p hp => by rw [hres.out] at hp; injection hp with hp; rw [← hp]⟩
  · obtain ⟨hkl, _⟩ := isT_lt hb
    have hres := Lib.hid (show res = some ([], ws.drop (k + 1)) by rw [HRC.out, hb, if_pos rfl, tail_drop])
    unfold rpS at hb
    rw [hb] at IS0
    clear hb HRC HI HW
    go_wp2_with fail
    (with_reducible refine Calls.mono IS0.out ?_)
    rintro ee w1 ⟨rfl, rfl⟩
    go_wp2_with fail
    go_ret2
    exact ⟨[], _, _, by rw [hres.out, nextI_at _ hkl]; exact tup_int (by omega), .inl rfl, HB.out, fun p hp => by rw [hres.out] at hp; injection hp with hp; rw [← hp]⟩
end Go.Proofs.YtkhcfhhejmkikaaGreatDoor

namespace Go.Proofs.YtkhcfhhejmkikaaGreatDoor
open Go.RowKit
set_option maxRecDepth 100000

theorem Cu.under {w w' : World} {R cap k B : Nat} {A : Option Addr} {ws : List W} (h : Cu w R A cap ws k) (hb : Below B w w') (hR : R < B) : Cu w' R A cap ws k :=
  ⟨h.wd.below (hb.mono (Nat.le_of_lt hR)), Nat.lt_of_lt_of_le h.lt hb.size, (hb.cell (p := ⟨R, 0, none⟩) hR).trans h.c0, (hb.cell (p := ⟨R, 1, none⟩) hR).trans h.c1, (hb.frozen (p := ⟨R, 1, none⟩) hR).trans h.f1, h.le⟩
theorem XR.under {w w' : World} {R cap k B : Nat} {A : Option Addr} {ws : List W} (h : XR w R A cap ws k) (hb : Below B w w') (hR : R + 5 < B) : XR w' R A cap ws k :=
  h.same (h.cu.under hb (by omega)) hb.size (fun i hi => hb.block i (by omega))
/-- What reading a list leaves. -/
def QRet (R cap : Nat) (A : Option Addr) (ws : List W) (res : Option (List E × List W)) (w : World) (ee : Ending) (w' : World) : Prop :=
  Mv R w w' ∧ (∃ k', Cu w' R A cap ws k' ∧ ∀ p, res = some p → ws.drop k' = p.2) ∧
    ∃ (ks : List E) (A' : Option Addr) (c : Nat), ee = .returned (.tuple #[.slice A' ks.length c, .bool res.isSome]) ∧ PdD w' (Between w' w.heap.size w'.heap.size) ks A' ∧ ∀ p, res = some p → ks = p.1
/-- Where a list of Kids stands, in the program. -/
def QRel (w0 : World) (R cap : Nat) (A : Option Addr) (ws : List W) (m : Nat) (res : Option (List E × List W)) (gk : Nat) (v : Value) (wr : World) : Prop :=
  ∃ (k : Nat) (acc : List E), XR wr R A cap ws k ∧ DrD wr w0.heap.size wr.heap.size v acc ∧ Mv R w0 wr ∧ acc.length ≤ k ∧ ws.length + 1 - k ≤ gk ∧ ∃ m', m' ≤ m ∧ 10 * (ws.length - k) + 11 ≤ m' ∧ rdK nmB m' acc (ws.drop k) = res
set_option maxHeartbeats 8000000 in
theorem readListed_of (R cap k m : Nat) (A : Option Addr) (ws : List W) (w : World) (hn : ws.length ≤ 600) (h : XR w R A cap ws k) (hm : 10 * (ws.length - k) + 12 ≤ m + 1) (G : Rts R w)
    (HX : ∀ (m' k' : Nat) (W : World), m' ≤ m → 10 * (ws.length - k') + 10 ≤ m' + 1 → XR W R A cap ws k' → Rts R W → Calls Tryz.prog 29 #[.pointer (some ⟨R, 0, none⟩)] W (PRet R cap A ws (rdL nmB m' 1 (ws.drop k')) W)) :
    Calls Tryz.prog 115 #[.pointer (some ⟨R, 0, none⟩), .func (.func 29) #[.pointer (some ⟨R, 0, none⟩)] #[]] w (QRet R cap A ws (rdC nmB (m + 1) (ws.drop k)) w) := by
  obtain ⟨i0, hi, hz0, hz1, hz2⟩ := info_parts exprInfo
  have TT := fun s k' W (hc : Cu W R A cap ws k') => Lib.hid (takeText_any R cap k' A ws s W hc hn)
  have TR := (TT rpS k w h.cu).out
  unfold rpS at TR
  replace TR := Lib.hid TR
  have hlt := h.cu.lt
  have hrs := h.sz
  have hle := h.cu.le
  have HXR := Lib.hid h
  have HXX := Lib.hid HX
  have HG := Lib.hid (show ∀ W, Mv R w W → Rts R W from fun W hm => G.mv hm)
  have HRC := Lib.hid (rdC_eq nmB m (ws.drop k))
  clear h HX G
  generalize rdC nmB (m + 1) (ws.drop k) = res at *
  go_enter Tryz.func115, Tryz.ntmps115
  go_wp2_with fail
  (with_reducible refine Calls.mono TR.out ?_)
  rintro ee w1 ⟨rfl, hm1, hc1⟩
  have HX1 := Lib.hid (HXR.out.mv hm1 hc1)
  have HM1 := Lib.hid hm1
  have e1 : isT (ws.drop k) ⟨#[41]⟩ = isT (ws.drop k) rpS := rfl
  rw [e1] at hc1 ⊢
  have HC1 := Lib.hid hc1
  clear TR hm1 hc1 HXR e1
  cases hb : isT (ws.drop k) rpS
  · have hbb := Lib.hid hb
    have HX2 := Lib.hid (show XR w1 R A cap ws k from by have h := HX1.out; have e := hbb.out; unfold rpS at e; rw [e] at h; exact h)
    have HKR := Lib.hid (show rdK nmB m [] (ws.drop k) = res by rw [HRC.out, hbb.out, if_neg (by simp)])
    have HS := Lib.hid (show QRel w R cap A ws m res (ws.length + 1) (.slice none 0 0) w1 from ⟨k, [], HX2.out, DrD.nil _ _ _, HM1.out, Nat.zero_le _, by omega, m, Nat.le_refl _, by omega, HKR.out⟩)
    clear hb HRC hbb HX1 HX2 HKR HM1 HC1
    go_wp2_with fail
    go_loopg [6] (ws.length + 1) (fun gk v wr => QRel w R cap A ws m res gk v wr)
    case atStart => exact HS.out
    case round =>
      clear HS
      obtain ⟨kk, acc, hX, hD, hM, hacc, hgk, m', hm', ham, hK⟩ := hrel
      obtain ⟨qm, rfl⟩ : ∃ qm, m' = qm + 1 := ⟨m' - 1, by omega⟩
      rw [rdK_eq] at hK
      obtain ⟨Av, cv, rfl⟩ := hD.slice
      have HOWN := Lib.hid hD.owned
      have hkk := hX.cu.le
      have L1 := Lib.hid (HXX.out qm kk wr (by omega) (by omega) hX (HG.out wr hM))
      have HLS := Lib.hid (fun e r => (rd_less nmB qm).L 1 (ws.drop kk) e r (by omega))
      have HK := Lib.hid hK
      have HD := Lib.hid hD
      have HXr := Lib.hid hX
      have HMr := Lib.hid hM
      have hsw := hM.1.below.size
      clear hK hD hX hM
      generalize rdL nmB qm 1 (ws.drop kk) = r1 at *
      go_wp2_with fail
      (with_reducible refine Calls.mono L1.out ?_)
      rintro ee w2 ⟨hm2, ⟨k2, hc2, hd2⟩, x, A2, cc, rfl, hp2, hx⟩
      unfold exV
      have hal := (Below.refl w2.heap.size w2).alloc (Nat.le_refl _) (.cells #[.int .i64 x.op, .int .i64 x.n, .string x.name, .slice A2 x.kids.length cc] 24)
      have b0 := alloc_cell w2 #[.int .i64 x.op, .int .i64 x.n, .string x.name, .slice A2 x.kids.length cc] 24 (0, 0) 0
      have b1 := alloc_cell w2 #[.int .i64 x.op, .int .i64 x.n, .string x.name, .slice A2 x.kids.length cc] 24 (0, 0) 1
      have b2 := alloc_cell w2 #[.int .i64 x.op, .int .i64 x.n, .string x.name, .slice A2 x.kids.length cc] 24 (0, 0) 2
      have b3 := alloc_cell w2 #[.int .i64 x.op, .int .i64 x.n, .string x.name, .slice A2 x.kids.length cc] 24 (0, 0) 3
      replace b0 : (w2.alloc (.cells #[.int .i64 x.op, .int .i64 x.n, .string x.name, .slice A2 x.kids.length cc] 24)).cell? ⟨w2.heap.size, 0, none⟩ = some (.int .i64 x.op) := b0
      replace b1 : (w2.alloc (.cells #[.int .i64 x.op, .int .i64 x.n, .string x.name, .slice A2 x.kids.length cc] 24)).cell? ⟨w2.heap.size, 1, none⟩ = some (.int .i64 x.n) := b1
      replace b2 : (w2.alloc (.cells #[.int .i64 x.op, .int .i64 x.n, .string x.name, .slice A2 x.kids.length cc] 24)).cell? ⟨w2.heap.size, 2, none⟩ = some (.string x.name) := b2
      replace b3 : (w2.alloc (.cells #[.int .i64 x.op, .int .i64 x.n, .string x.name, .slice A2 x.kids.length cc] 24)).cell? ⟨w2.heap.size, 3, none⟩ = some (.slice A2 x.kids.length cc) := b3
      have hs2 := hm2.1.below.size
      have hlt2 : R < w2.heap.size := by omega
      have HM3 := Lib.hid ((HMr.out.trans hm2).trans (Mv.of_below hal hlt2))
      have HX3 := Lib.hid ((HXr.out.mv hm2 hc2).below hal)
      have HP3 := Lib.hid (PdD.later hp2 hal (Nat.le_refl _) hal.size)
      have HD3 := Lib.hid ((HD.out.touch hm2.1 hlt (Nat.le_refl _)).below hal (Nat.le_refl _) hm2.1.below.size)
      have hs3 := hal.size
      have HXE := Lib.hid hx
      have HD2 := Lib.hid hd2
      have hk2le := hc2.le
      clear L1 hm2 hc2 hd2 hp2 hx hal HD HXr HMr
      go_upto_region 5 with (fail)
      generalize w2.alloc (.cells #[.int .i64 x.op, .int .i64 x.n, .string x.name, .slice A2 x.kids.length cc] 24) = w3 at *
      rcases hr1 : r1 with _ | ⟨x', r⟩
      · have hres := Lib.hid (show res = none by rw [← HK.out, hr1]; rfl)
        have e0 : (none : Option (E × List W)).isSome = false := rfl
        subst hr1
        rw [e0]
        clear e0 HK HLS HXE HD2 HP3 HD3
        go_wp2_with fail
        go_ret2
        rw [hres.out]
        exact ⟨HM3.out, ⟨k2, HX3.out.cu, fun p hp => by cases hp⟩, [], none, 0, rfl, .inl rfl, fun p hp => by cases hp⟩
      · obtain ⟨a1, a2, _, _⟩ := HLS.out _ _ hr1
        obtain ⟨k3, q1, q2, q3, q4⟩ := suf_place a1 a2
        obtain rfl : x = x' := HXE.out _ hr1
        have hd := HD2.out _ hr1
        dsimp only at hd
        have hk3 : k2 = k3 := by
          have h1 : (ws.drop k2).length = (ws.drop k3).length := by rw [hd, q3]
          rw [List.length_drop, List.length_drop] at h1
          omega
        subst hk3
        subst hr1
        have e0 : (some (x, r) : Option (E × List W)).isSome = true := rfl
        rw [e0]
        have HK2 := Lib.hid (show res = if isT (ws.drop k2) rpS = true then some (acc ++ [x], ws.drop (k2 + 1)) else if isT (ws.drop k2) cmS = true then rdK nmB qm (acc ++ [x]) (ws.drop (k2 + 1)) else none by
          rw [← HK.out, ← tail_drop, ← q3]; rfl)
        clear e0 HK HLS HXE HD2 a1 a2 q3 q4 hd
        -- the row of one, and the append
        have hal4 := (Below.refl w3.heap.size w3).alloc (Nat.le_refl _) (.cells #[.int .i64 x.op, .int .i64 x.n, .string x.name, .slice A2 x.kids.length cc] 24)
        obtain ⟨xs, ff, ho, hxx⟩ := HD3.out.below hal4 (Nat.le_refl _) (by omega)
        have HOW := Lib.hid ho
        have HXX2 := Lib.hid hxx
        have HNW := Lib.hid (new_four w3 (.int .i64 x.op) (.int .i64 x.n) (.string x.name) (.slice A2 x.kids.length cc) 24)
        have HTO := Lib.hid (kid_cells x A2 cc)
        have hbz : w.heap.size ≤ (w3.alloc (.cells #[.int .i64 x.op, .int .i64 x.n, .string x.name, .slice A2 x.kids.length cc] 24)).heap.size := by have := hal4.size; omega
        have hwz : wr.heap.size ≤ (w3.alloc (.cells #[.int .i64 x.op, .int .i64 x.n, .string x.name, .slice A2 x.kids.length cc] 24)).heap.size := by have := hal4.size; omega
        have HLB := Lib.hid (show (acc.length + 1 ≤ maxLen ∧ (acc.length + 1) * 56 ≤ 140737488355328) from ⟨by unfold maxLen; omega, by omega⟩)
        have HK4 := Lib.hid ((show PdD (w3.alloc (.cells #[.int .i64 x.op, .int .i64 x.n, .string x.name, .slice A2 x.kids.length cc] 24)) (fun b => Between (w3.alloc (.cells #[.int .i64 x.op, .int .i64 x.n, .string x.name, .slice A2 x.kids.length cc] 24)) wr.heap.size (w3.alloc (.cells #[.int .i64 x.op, .int .i64 x.n, .string x.name, .slice A2 x.kids.length cc] 24)).heap.size b ∧ (Value.slice Av acc.length cv).ownBlock ≠ some b) x.kids A2 from
          (PdD.later HP3.out hal4 (Nat.le_refl _) hal4.size).keep (fun _ _ _ => rfl) (fun b hb => ⟨⟨hb.1, hb.2⟩, fun e => by have := HOWN.out b e; have := hb.1; omega⟩)))
        have HM4 := Lib.hid (HM3.out.trans (Mv.of_below hal4 (by omega)))
        have HX4 := Lib.hid (HX3.out.below hal4)
        clear ho hxx hal4 HD3 HP3 HM3 HX3
        go_upto_region 8 with (at_builtin; refine wpList_append_lies _ rfl _ _ 22 rfl w.heap.size 24 i0 (.agg #[.int .i64 0, .int .i64 0, .string ⟨#[]⟩, .slice none 0 0]) 4 56 Tryz.underlying22 hi hz0 hz1 hz2 rfl (by decide) _ acc.length xs rfl HOW.out ⟨w3.heap.size, 0, none⟩ 1 1 (Kd.mk x A2 cc).cells rfl rfl HNW.out HTO.out (by decide) HLB.out.1 HLB.out.2 hbz _ rfl ?_; intro g8 cap8 w8 hown8 hgrow8 hat8 hlt8)
        have hbg := (Below.refl w.heap.size (w3.alloc (.cells #[.int .i64 x.op, .int .i64 x.n, .string x.name, .slice A2 x.kids.length cc] 24))).grown hgrow8 hbz (fun k e => by have := HOWN.out k e; omega)
        have HD8 := Lib.hid ((DrD.snoc (x := wr.heap.size) (w := (w3.alloc (.cells #[.int .i64 x.op, .int .i64 x.n, .string x.name, .slice A2 x.kids.length cc] 24))) ⟨x, A2, cc⟩ HXX2.out HOW.out.1 rfl (by omega) (by omega) hown8 hgrow8 hat8 HK4.out).up hbg.size)
        have HM8 := Lib.hid (show Mv R w w8 from ⟨⟨HM4.out.1.below.trans (hbg.mono (Nat.le_of_lt hlt)), fun b h1 h2 => (hbg.block b h2).trans (HM4.out.1.above b h1 h2)⟩, fun o ho => (hbg.cell (p := ⟨R, o, none⟩) hlt).trans (HM4.out.2 o ho)⟩)
        have HX8 := Lib.hid (HX4.out.under hbg hrs)
        clear hown8 hgrow8 hat8 hlt8 HK4 HM4 HX4 HOW HXX2 HNW HTO HLB hbz hwz b0 b1 b2 b3 hbg
        have hlen : (acc ++ [x]).length = acc.length + 1 := by simp
        have HLEN := Lib.hid hlen
        clear hlen
        have TR := (TT rpS k2 w8 HX8.out.cu).out
        unfold rpS at TR
        replace TR := Lib.hid TR
        go_wp2_with fail
        (with_reducible refine Calls.mono TR.out ?_)
        rintro ee w9 ⟨rfl, hm9, hc9⟩
        have e1 : isT (ws.drop k2) ⟨#[41]⟩ = isT (ws.drop k2) rpS := rfl
        rw [e1] at hc9 ⊢
        have HM9 := Lib.hid (HM8.out.trans hm9)
        have HX9 := Lib.hid (HX8.out.mv hm9 hc9)
        have HD9 := Lib.hid (HD8.out.touch' hm9.1 hlt)
        clear TR hm9 hc9 e1 HM8 HX8 HD8
        cases hb2 : isT (ws.drop k2) rpS
        · rw [hb2] at HX9 HK2
          have TC := (TT cmS k2 w9 HX9.out.cu).out
          unfold cmS at TC
          replace TC := Lib.hid TC
          clear hb2
          go_wp2_with fail
          (with_reducible refine Calls.mono TC.out ?_)
          rintro ee wA ⟨rfl, hmA, hcA⟩
          have e1 : isT (ws.drop k2) ⟨#[44]⟩ = isT (ws.drop k2) cmS := rfl
          rw [e1] at hcA ⊢
          have HMA := Lib.hid (HM9.out.trans hmA)
          have HXA := Lib.hid (HX9.out.mv hmA hcA)
          have HDA := Lib.hid (HD9.out.touch' hmA.1 hlt)
          clear TC hmA hcA e1 HM9 HX9 HD9
          cases hb3 : isT (ws.drop k2) cmS
          · rw [hb3] at HXA HK2
            have hres := Lib.hid (show res = none from HK2.out)
            clear hb3 HK2
            go_wp2_with fail
            go_ret2
            rw [hres.out]
            exact ⟨HMA.out, ⟨k2, HXA.out.cu, fun p hp => by cases hp⟩, [], none, 0, rfl, .inl rfl, fun p hp => by cases hp⟩
          · rw [hb3] at HXA HK2
            have hres := Lib.hid (show rdK nmB qm (acc ++ [x]) (ws.drop (k2 + 1)) = res from HK2.out.symm)
            have HXB := Lib.hid (show XR wA R A cap ws (k2 + 1) from HXA.out)
            clear hb3 HK2 HXA
            have hk4 := HXB.out.cu.le
            go_wp2_with fail
            go_roundg (gk - 1)
            case measure => omega
            case rel => exact ⟨k2 + 1, acc ++ [x], HXB.out, HDA.out, HMA.out, by have := HLEN.out; omega, by omega, qm, by omega, by omega, hres.out⟩
        · rw [hb2] at HX9 HK2
          have hres := Lib.hid (show res = some (acc ++ [x], ws.drop (k2 + 1)) from HK2.out)
          clear hb2 HK2
          go_wp2_with fail
          go_ret2
          rw [hres.out]
          exact ⟨HM9.out, ⟨k2 + 1, HX9.out.cu, fun p hp => by injection hp with hp; rw [← hp]⟩, acc ++ [x], _, _, by rw [HLEN.out]; rfl, HD9.out.pd (Nat.le_refl _), fun p hp => by injection hp with hp; rw [← hp]⟩
  · have hres := Lib.hid (show res = some ([], ws.drop (k + 1)) by rw [HRC.out, hb, if_pos rfl, tail_drop])
    rw [hb] at HC1
    clear hb HRC HX1 HXX HG TT
    go_wp2_with fail
    go_ret2
    rw [hres.out]
    exact ⟨HM1.out, ⟨k + 1, HC1.out, fun p hp => by injection hp with hp; rw [← hp]⟩, [], none, 0, rfl, .inl rfl, fun p hp => by injection hp with hp; rw [← hp]⟩
end Go.Proofs.YtkhcfhhejmkikaaGreatDoor
