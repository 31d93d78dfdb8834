/-
  The model's ReadExpr.
-/
import Derived.Test.YtkhcfhhejmkikaaGreatDoorMg10
import Derived.Test.YtkhcfhhejmkikaaGreatDoorMg16
import Derived.Test.YtkhcfhhejmkikaaGreatDoorMg17
import Derived.Test.YtkhcfhhejmkikaaGreatDoorMg25
import Derived.Test.YtkhcfhhejmkikaaGreatDoorMg29
import Derived.Test.YtkhcfhhejmkikaaGreatDoorMg30
namespace Go.Proofs.YtkhcfhhejmkikaaGreatDoor
open Go.RowKit
set_option maxRecDepth 100000
set_option maxHeartbeats 2000000 in
theorem l2Read_high (A : Option Addr) (cap : Nat) (ws : List W) (m : Nat) (IH : ModR A cap ws m) (k : Nat) (w : World) (hk : k ≤ ws.length) (hm : 10 * (ws.length - k) + 4 ≤ m) (hW : Words w w.heap.size A ws) :
    Calls Tryz.prog 27 #[.slice A ws.length cap, .int .i64 (k : Int), .int .i64 5] w (RdM ws.length (rdT nmB m (ws.drop k)) w) := by
  have hb0 := (Below.refl w.heap.size w).alloc (Nat.le_refl _) (.cells #[.int .i64 0, .int .i64 0, .string ⟨#[]⟩, .slice none 0 0] 24)
  have R0 := Lib.hid (Res.new w (.int .i64 0) (.int .i64 0) (.string ⟨#[]⟩) (.slice none 0 0) 24)
  have hl0 : w.heap.size < (w.alloc (.cells #[.int .i64 0, .int .i64 0, .string ⟨#[]⟩, .slice none 0 0] 24)).heap.size := by rw [World.size_alloc]; omega
  have T := Lib.hid (IH.T k _ hk hm ((hW.below hb0).more hb0.size))
  clear IH hW
  generalize rdT nmB m (ws.drop k) = res at *
  go_enter Tryz.func27, Tryz.ntmps27
  go_wp2_with fail
  (with_reducible refine Calls.mono T.out ?_)
  rintro ee w2 ⟨e, A2, c2, rfl, hp, hb2, he⟩
  unfold exV
  have R2 := R0.out.below hb2 hl0
  obtain ⟨c0, c1, c2', c3⟩ := R2.c
  have f0 := R2.f 0
  have f1 := R2.f 1
  have f2 := R2.f 2
  have f3 := R2.f 3
  have HB2 := Lib.hid (hb0.trans (hb2.mono hb0.size))
  have HP := Lib.hid (PdS.wide (lo' := w.heap.size + 1) hp (by rw [World.size_alloc]; omega) (Nat.le_refl _))
  have HE := Lib.hid he
  have HZ := Lib.hid hb2.size
  clear hb0 R0 T hp hb2 he R2 hl0
  go_wp2_with fail
  refine bodyPost_ret (v := .tuple #[.agg #[.int .i64 e.op, .int .i64 e.n, .string e.name, .slice A2 e.kids.length c2], .int .i64 (nextI ws.length res)]) (by simp [results, Tryz.results27, go_sem, c0, c1, c2', c3]) rfl ⟨e, A2, c2, rfl, ?_, below_four HB2.out (Nat.le_refl _) _ _ _ _, HE.out⟩
  have h := PdS.four' HP.out (Nat.lt_succ_self _) (.int .i64 e.op) (.int .i64 e.n) (.string e.name) (.slice A2 e.kids.length c2)
  exact h.wide (Nat.le_succ _) (by simp)

set_option maxHeartbeats 8000000 in
theorem l2Read_low (A : Option Addr) (cap : Nat) (ws : List W) (m : Nat) (hn : ws.length ≤ 600) (IH : ModU A cap ws m) (l k : Nat) (w : World) (hl1 : 1 ≤ l) (hl : l ≤ 4) (hk : k ≤ ws.length) (hm : 10 * (ws.length - k) + 10 ≤ m + 1 + l) (hW : Words w w.heap.size A ws) :
    Calls Tryz.prog 27 #[.slice A ws.length cap, .int .i64 (k : Int), .int .i64 (l : Int)] w (RdM ws.length (rdL nmB (m + 1) l (ws.drop k)) w) := by
  have hb0 := (Below.refl w.heap.size w).alloc (Nat.le_refl _) (.cells #[.int .i64 0, .int .i64 0, .string ⟨#[]⟩, .slice none 0 0] 24)
  have R0 := Lib.hid (Res.new w (.int .i64 0) (.int .i64 0) (.string ⟨#[]⟩) (.slice none 0 0) 24)
  have hl0 : w.heap.size < (w.alloc (.cells #[.int .i64 0, .int .i64 0, .string ⟨#[]⟩, .slice none 0 0] 24)).heap.size := by rw [World.size_alloc]; omega
  have hz0 : (w.alloc (.cells #[.int .i64 0, .int .i64 0, .string ⟨#[]⟩, .slice none 0 0] 24)).heap.size = w.heap.size + 1 := World.size_alloc _ _
  have HW := Lib.hid hW
  have L1 := Lib.hid ((IH m (Nat.le_refl _)).L (l + 1) k (w.alloc (.cells #[.int .i64 0, .int .i64 0, .string ⟨#[]⟩, .slice none 0 0] 24)) (by omega) (by omega) hk (by omega) ((hW.below hb0).more hb0.size))
  have HI := Lib.hid IH
  have HR := Lib.hid (show rdL nmB (m + 1) l (ws.drop k) = (rdL nmB m (l + 1) (ws.drop k)).bind fun p => rdO nmB m l p.1 p.2 by
    show (if 4 < l then rdT nmB m (ws.drop k) else (rdL nmB m (l + 1) (ws.drop k)).bind fun p => rdO nmB m l p.1 p.2) = _
    rw [if_neg (by omega)])
  have HLS := Lib.hid (fun e r => (rd_less nmB m).L (l + 1) (ws.drop k) e r (by omega))
  clear IH hW
  generalize rdL nmB (m + 1) l (ws.drop k) = res at *
  generalize rdL nmB m (l + 1) (ws.drop k) = r1 at *
  have hcl : ((l + 1 : Nat) : Int) = (l : Int) + 1 := by omega
  replace L1 := L1.out
  rw [hcl] at L1
  replace L1 := Lib.hid L1
  clear hcl
  go_enter Tryz.func27, Tryz.ntmps27
  go_wp2_with fail
  (with_reducible refine Calls.mono L1.out ?_)
  rintro ee w2 ⟨e, A2, c2, rfl, hp, hb2, he⟩
  unfold exV
  have R2 := R0.out.below hb2 hl0
  have hb02 := hb0.trans (hb2.mono hb0.size)
  have hal := (Below.refl w2.heap.size w2).alloc (Nat.le_refl _) (.cells #[.int .i64 e.op, .int .i64 e.n, .string e.name, .slice A2 e.kids.length c2] 24)
  have X3 := Res.new w2 (.int .i64 e.op) (.int .i64 e.n) (.string e.name) (.slice A2 e.kids.length c2) 24
  have hX : w.heap.size < w2.heap.size := R2.lt
  have HS := Lib.hid (show LRel w ws.length ws l m w2.heap.size res (nextI ws.length r1) (w2.alloc (.cells #[.int .i64 e.op, .int .i64 e.n, .string e.name, .slice A2 e.kids.length c2] 24)) e A2 c2 from by
    refine ⟨X3, ?_, R2.below hal R2.lt, hb02.trans (hal.mono hb02.size), ?_⟩
    · exact (PdS.later hp hal (Nat.le_refl _) (Nat.le_refl _)).toX (.inr (Nat.le_refl _)) (by omega) hal.size
    · have hr := HR.out
      cases r1 with
      | none => exact .inl ⟨rfl, hr⟩
      | some p =>
        obtain ⟨x, r⟩ := p
        obtain rfl : e = x := he _ rfl
        obtain ⟨a1, a2, _, _⟩ := HLS.out _ _ rfl
        obtain ⟨k2, q1, q2, q3, q4⟩ := suf_place a1 a2
        refine .inr ⟨k2, m, ?_, q2, Nat.le_refl _, by omega, ?_⟩
        · show ((ws.length - r.length : Nat) : Int) = _; omega
        · rw [← q3]; exact hr.symm)
  generalize nextI ws.length r1 = z0 at *
  clear hb0 R0 L1 hp hb2 he R2 hl0 HR HLS hb02 hal X3 hz0
  go_wp2_with fail
  generalize w2.heap.size = X at *
  go_loopw [9] (fun i wr => ∃ (z : Int) (e : E) (A2 : Option Addr) (c2 : Nat), i = .int .i64 z ∧ LRel w ws.length ws l m X res z wr e A2 c2) (fun i _ => mz ws.length (intOf i))
  case atStart => exact ⟨z0, e, A2, c2, rfl, HS.out⟩
  case round =>
    clear HS
    obtain ⟨z, e, A2, c2, rfl, hX3, hP3, hR3, hB3, hcase⟩ := hrel
    have HX := Lib.hid hX3
    have HP := Lib.hid hP3
    have HRr := Lib.hid hR3
    have HB := Lib.hid hB3
    obtain ⟨x0, x1, x2, x3⟩ := hX3.c
    clear hX3 hP3 hR3 hB3
    have fin : ∀ (zz : Int), (zz = nextI ws.length res) → (∀ p, res = some p → e = p.1) → ∀ ww, ww = ((((wr.setCell ⟨w.heap.size, 0, none⟩ (.int .i64 e.op)).setCell ⟨w.heap.size, 1, none⟩ (.int .i64 e.n)).setCell ⟨w.heap.size, 2, none⟩ (.string e.name)).setCell ⟨w.heap.size, 3, none⟩ (.slice A2 e.kids.length c2)) →
        RdM ws.length res w (.returned (.tuple #[exV e A2 c2, .int .i64 zz])) ww := by
      intro zz hzz he ww hww
      subst hww
      refine ⟨e, A2, c2, by rw [hzz], ?_, below_four HB.out (Nat.le_refl _) _ _ _ _, he⟩
      have h := PdS.four' HP.out.fromX (Nat.lt_succ_self _) (.int .i64 e.op) (.int .i64 e.n) (.string e.name) (.slice A2 e.kids.length c2)
      exact h.wide (Nat.le_succ _) (by simp)
    have FIN := Lib.hid fin
    clear fin
    rcases hcase with ⟨rfl, hres⟩ | ⟨k2, m2, rfl, hk2, hm2, ha2, hO⟩
    · have hres2 := Lib.hid hres
      have hm1 : ¬ (0 : Int) ≤ -1 := by decide
      obtain ⟨c0, c1, c2', c3⟩ := HRr.out.c
      have f0 := HRr.out.f 0
      have f1 := HRr.out.f 1
      have f2 := HRr.out.f 2
      have f3 := HRr.out.f 3
      clear hres
      go_wp2_with fail
      refine bodyPost_ret (v := .tuple #[.agg #[.int .i64 e.op, .int .i64 e.n, .string e.name, .slice A2 e.kids.length c2], .int .i64 (-1)]) (by simp [results, Tryz.results27, go_sem, c0, c1, c2', c3]) rfl ?_
      exact FIN.out _ (by rw [hres2.out]; rfl) (fun p hp => by rw [hres2.out] at hp; cases hp) _ rfl
    · have OP := Lib.hid (l2Op_any A ws cap k2 l wr ((HW.out.below HB.out).more HB.out.size) hn (by omega))
      have HO := Lib.hid hO
      clear hO
      cases hop : opAt l (ws.drop k2) with
      | none =>
        rw [opN_none hop] at OP
        have hres := Lib.hid (rdO_none HO.out (by omega) hop)
        clear hop
        obtain ⟨c0, c1, c2', c3⟩ := HRr.out.c
        have f0 := HRr.out.f 0
        have f1 := HRr.out.f 1
        have f2 := HRr.out.f 2
        have f3 := HRr.out.f 3
        go_wp2_with fail
        (with_reducible refine Calls.mono OP.out ?_)
        rintro ee w4 ⟨rfl, rfl⟩
        go_wp2_with fail
        refine bodyPost_ret (v := .tuple #[.agg #[.int .i64 e.op, .int .i64 e.n, .string e.name, .slice A2 e.kids.length c2], .int .i64 (k2 : Int)]) (by simp [results, Tryz.results27, go_sem, c0, c1, c2', c3]) rfl ?_
        exact FIN.out _ (by rw [hres.out, nextI_at _ hk2]) (fun p hp => by rw [hres.out] at hp; injection hp with hp; rw [← hp]) _ rfl
      | some op =>
        obtain ⟨hkl, ho3, ho10⟩ := pos_of_op hop
        rw [opN_some hop] at OP
        have HOP := Lib.hid hop
        have qop : (0 : Int) < op := by omega
        have L2 := (HI.out (m2 - 1) (by omega)).L (l + 1) (k2 + 1) wr (by omega) (by omega) hkl (by omega) ((HW.out.below HB.out).more HB.out.size)
        rw [show ((k2 + 1 : Nat) : Int) = (k2 : Int) + 1 by omega, show ((l + 1 : Nat) : Int) = (l : Int) + 1 by omega] at L2
        replace L2 := Lib.hid L2
        clear hop FIN
        go_wp2_with fail
        (with_reducible refine Calls.mono OP.out ?_)
        rintro ee w4 ⟨rfl, rfl⟩
        go_wp2_with fail
        (with_reducible refine Calls.mono OP.out ?_)
        rintro ee w4 ⟨rfl, rfl⟩
        go_wp2_with fail
        (with_reducible refine Calls.mono L2.out ?_)
        rintro ee w5 ⟨y, A5, c5, rfl, hp5, hb5, hy⟩
        unfold exV
        have NX := Lib.hid (lrel_next (x := e) (y := y) rfl hk2 hm2 ha2 HO.out HOP.out rfl hl hy)
        generalize nextI ws.length (rdL nmB (m2 - 1) (l + 1) (ws.drop (k2 + 1))) = z5 at *
        have hXl := HX.out.lt
        have X5 := HX.out.below hb5 hXl
        have R5 := HRr.out.below hb5 HRr.out.lt
        have P5 := HP.out.belowX hb5
        have B5 := HB.out.trans (hb5.mono HB.out.size)
        have Q5 := hp5.toX (X := X) (lo' := w.heap.size + 1) (.inl hXl) (by have := HRr.out.lt; omega) (Nat.le_refl _)
        -- the box of y
        have hal := (Below.refl w5.heap.size w5).alloc (Nat.le_refl _) (.cells #[.int .i64 y.op, .int .i64 y.n, .string y.name, .slice A5 y.kids.length c5] 24)
        have y0 := alloc_cell w5 #[.int .i64 y.op, .int .i64 y.n, .string y.name, .slice A5 y.kids.length c5] 24 (0, 0) 0
        have y1 := alloc_cell w5 #[.int .i64 y.op, .int .i64 y.n, .string y.name, .slice A5 y.kids.length c5] 24 (0, 0) 1
        have y2 := alloc_cell w5 #[.int .i64 y.op, .int .i64 y.n, .string y.name, .slice A5 y.kids.length c5] 24 (0, 0) 2
        have y3 := alloc_cell w5 #[.int .i64 y.op, .int .i64 y.n, .string y.name, .slice A5 y.kids.length c5] 24 (0, 0) 3
        replace y0 : (w5.alloc (.cells #[.int .i64 y.op, .int .i64 y.n, .string y.name, .slice A5 y.kids.length c5] 24)).cell? ⟨w5.heap.size, 0, none⟩ = some (.int .i64 y.op) := y0
        replace y1 : (w5.alloc (.cells #[.int .i64 y.op, .int .i64 y.n, .string y.name, .slice A5 y.kids.length c5] 24)).cell? ⟨w5.heap.size, 1, none⟩ = some (.int .i64 y.n) := y1
        replace y2 : (w5.alloc (.cells #[.int .i64 y.op, .int .i64 y.n, .string y.name, .slice A5 y.kids.length c5] 24)).cell? ⟨w5.heap.size, 2, none⟩ = some (.string y.name) := y2
        replace y3 : (w5.alloc (.cells #[.int .i64 y.op, .int .i64 y.n, .string y.name, .slice A5 y.kids.length c5] 24)).cell? ⟨w5.heap.size, 3, none⟩ = some (.slice A5 y.kids.length c5) := y3
        have X6 := X5.below hal X5.lt
        have R6 := Lib.hid (R5.below hal R5.lt)
        have P6 := Lib.hid (P5.belowX hal)
        have Q6 := Lib.hid (Q5.belowX hal)
        have B6 := Lib.hid (B5.trans (hal.mono B5.size))
        obtain ⟨x0', x1', x2', x3'⟩ := X6.c
        have g0 := X6.f 0
        have g1 := X6.f 1
        have g2 := X6.f 2
        have g3 := X6.f 3
        have HX6 := Lib.hid X6
        have hX5 : X < w5.heap.size := X5.lt
        clear hp5 hb5 X5 R5 P5 B5 Q5 hal X6 x0 x1 x2 x3 HX HP HRr HB OP L2
        go_upto_region 7 with (fail)
        generalize w5.alloc (.cells #[.int .i64 y.op, .int .i64 y.n, .string y.name, .slice A5 y.kids.length c5] 24) = w6 at *
        have hlz : X < w6.heap.size := HX6.out.lt
        have hw5 : w.heap.size + 1 ≤ X := hX
        -- the row of both
        have hal2 := (Below.refl w6.heap.size w6).alloc (Nat.le_refl _) (.cells #[.int .i64 e.op, .int .i64 e.n, .string e.name, .slice A2 e.kids.length c2, .int .i64 y.op, .int .i64 y.n, .string y.name, .slice A5 y.kids.length c5] 24)
        have X7 := Lib.hid (HX6.out.below hal2 hlz)
        have t0 := X7.out.f 0
        have t1 := X7.out.f 1
        have t2 := X7.out.f 2
        have t3 := X7.out.f 3
        obtain ⟨s0, s1, s2, s3⟩ := X7.out.c
        clear hal2
        go_wp2_with fail
        go_roundw
        case rel =>
          have X8 := res_four HX6.out (.int .i64 op) (.int .i64 0) (.string ⟨#[]⟩) (.slice (some ⟨w6.heap.size, 0, none⟩) 2 2)
          have R8 := res_four_off R6.out (b' := X) (by omega) (.int .i64 op) (.int .i64 0) (.string ⟨#[]⟩) (.slice (some ⟨w6.heap.size, 0, none⟩) 2 2)
          have P8 := pd_fourX P6.out (.int .i64 op) (.int .i64 0) (.string ⟨#[]⟩) (.slice (some ⟨w6.heap.size, 0, none⟩) 2 2)
          have Q8 := pd_fourX Q6.out (.int .i64 op) (.int .i64 0) (.string ⟨#[]⟩) (.slice (some ⟨w6.heap.size, 0, none⟩) 2 2)
          have B8 := below_four B6.out (show w.heap.size ≤ X by omega) (.int .i64 op) (.int .i64 0) (.string ⟨#[]⟩) (.slice (some ⟨w6.heap.size, 0, none⟩) 2 2)
          have hz8 : ((((w6.setCell ⟨X, 0, none⟩ (.int .i64 op)).setCell ⟨X, 1, none⟩ (.int .i64 0)).setCell ⟨X, 2, none⟩ (.string ⟨#[]⟩)).setCell ⟨X, 3, none⟩ (.slice (some ⟨w6.heap.size, 0, none⟩) 2 2)).heap.size = w6.heap.size := by simp
          generalize ((((w6.setCell ⟨X, 0, none⟩ (.int .i64 op)).setCell ⟨X, 1, none⟩ (.int .i64 0)).setCell ⟨X, 2, none⟩ (.string ⟨#[]⟩)).setCell ⟨X, 3, none⟩ (.slice (some ⟨w6.heap.size, 0, none⟩) 2 2)) = w8 at *
          exact rel_round hz8 hw5 hlz X8 R8 P8 Q8 B8 (by
            rcases NX.out with h | ⟨k3, m3, h1, _, h2, h3, h4, h5⟩
            · exact .inl h
            · exact .inr ⟨k3, m3, h1, h2, h3, h4, h5⟩)
        case measure =>
          show mz ws.length z5 < mz ws.length (k2 : Int)
          rcases NX.out with ⟨h, _⟩ | ⟨k3, m3, h1, hlt, h2, _⟩
          · rw [h, mz_neg, mz_nat]; omega
          · rw [h1, mz_nat, mz_nat]; omega

end Go.Proofs.YtkhcfhhejmkikaaGreatDoor

namespace Go.Proofs.YtkhcfhhejmkikaaGreatDoor
open Go.RowKit
set_option maxRecDepth 100000
theorem mod_all (A : Option Addr) (cap : Nat) (ws : List W) (hn : ws.length ≤ 600) (hvs : ∀ x ∈ ws, x.2.size ≤ 4) : ∀ m, ModU A cap ws m
  | 0 => fun m' hm' => by
    obtain rfl : m' = 0 := by omega
    exact ⟨fun l k w h1 h2 h3 h4 _ => by omega, fun k w _ h _ => by omega, fun k w _ h _ => by omega⟩
  | m + 1 => fun m' hm' => by
    have ih := mod_all A cap ws hn hvs m
    by_cases h : m' ≤ m
    · exact ih m' h
    · obtain rfl : m' = m + 1 := by omega
      refine ⟨fun l k w h1 h2 h3 h4 hW => ?_, fun k w h1 h2 hW => l2Tight_of A cap ws m hn hvs ih k w h1 h2 hW, fun k w h1 h2 hW => l2List_of A cap ws m hn ih k w h1 h2 hW⟩
      by_cases h5 : l = 5
      · subst h5
        have e : rdL nmB (m + 1) 5 (ws.drop k) = rdT nmB m (ws.drop k) := by
          show (if 4 < 5 then rdT nmB m (ws.drop k) else _) = _
          rw [if_pos (by omega)]
        rw [e]
        exact l2Read_high A cap ws m (ih m (Nat.le_refl _)) k w h3 (by omega) hW
      · exact l2Read_low A cap ws m hn ih l k w h1 (by omega) h3 (by omega) hW

end Go.Proofs.YtkhcfhhejmkikaaGreatDoor

namespace Go.Proofs.YtkhcfhhejmkikaaGreatDoor
open Go.RowKit
set_option maxRecDepth 100000

/-- What ReadExpr leaves. -/
def RdX (p : E × Bool) (w : World) (ee : Ending) (w' : World) : Prop :=
  ∃ (A : Option Addr) (c : Nat), ee = .returned (.tuple #[exV p.1 A c, .bool p.2]) ∧ PdS w' (Between w' w.heap.size w'.heap.size) p.1.kids A ∧ Below w.heap.size w w'
theorem readW_cases (ws : List W) : (rdL nmB 6100 1 ws = none ∧ readW ws = (E.none, false)) ∨ ∃ e r, rdL nmB 6100 1 ws = some (e, r) ∧ readW ws = if r = [] ∧ validE e = true then (e, true) else (E.none, false) := by
  cases h : rdL nmB 6100 1 ws with
  | none => exact .inl ⟨rfl, by unfold readW; rw [h]⟩
  | some p =>
    obtain ⟨e, r⟩ := p
    refine .inr ⟨e, r, rfl, ?_⟩
    unfold readW
    rw [h]
    cases r with
    | nil =>
      dsimp only
      cases validE e <;> simp
    | cons _ _ => simp
theorem readF_no {s : ByteArray} {ws : List W} (h : cutRes s = (ws, false)) : readF s = (E.none, false) := by unfold readF; rw [h]; rfl
theorem readF_ok {s : ByteArray} {ws : List W} (h : cutRes s = (ws, true)) : readF s = readW ws := by unfold readF; rw [h]; rfl
theorem words_four {s : ByteArray} {ws : List W} {b : Bool} (h : cutRes s = (ws, b)) : ∀ x ∈ ws, x.2.size ≤ 4 := by
  have hv := cutRes_valid s
  rw [h] at hv
  exact fun x hx => validB_size (hv x hx)
set_option maxHeartbeats 8000000 in
theorem specReadExpr_any (s : ByteArray) (w : World) (hs : s.size ≤ 1048576) : Calls Tryz.prog 9 #[.string s] w (RdX (readF s) w) := by
  have hb0 := (Below.refl w.heap.size w).alloc (Nat.le_refl _) (.cells #[.int .i64 0, .int .i64 0, .string ⟨#[]⟩, .slice none 0 0] 24)
  have R0 := Lib.hid (Res.new w (.int .i64 0) (.int .i64 0) (.string ⟨#[]⟩) (.slice none 0 0) 24)
  have hz0 : (w.alloc (.cells #[.int .i64 0, .int .i64 0, .string ⟨#[]⟩, .slice none 0 0] 24)).heap.size = w.heap.size + 1 := World.size_alloc _ _
  have HB0 := Lib.hid hb0
  have SC := Lib.hid (specCutWords_any s (w.alloc (.cells #[.int .i64 0, .int .i64 0, .string ⟨#[]⟩, .slice none 0 0] 24)) hs)
  have hlen := cutRes_len s
  cases hcr : cutRes s with
  | mk ws ok =>
  rw [hcr] at SC hlen
  have hlen' : ws.length ≤ 600 := hlen
  have HV := Lib.hid (words_four hcr)
  have none_ : ∀ W ww, Below w.heap.size w W → ww = ((((W.setCell ⟨w.heap.size, 0, none⟩ (.int .i64 0)).setCell ⟨w.heap.size, 1, none⟩ (.int .i64 0)).setCell ⟨w.heap.size, 2, none⟩ (.string ⟨#[]⟩)).setCell ⟨w.heap.size, 3, none⟩ (.slice none 0 0)) → RdX (E.none, false) w (.returned (.tuple #[.agg #[.int .i64 0, .int .i64 0, .string ⟨#[]⟩, .slice none 0 0], .bool false])) ww := by
    intro W ww hW hww
    subst hww
    exact ⟨none, 0, rfl, .inl rfl, below_four hW (Nat.le_refl _) _ _ _ _⟩
  have NN := Lib.hid none_
  clear none_ hlen hb0
  cases ok
  · rw [readF_no hcr]
    clear hcr
    go_enter Tryz.func9, Tryz.ntmps9
    go_wp2_with fail
    (with_reducible refine Calls.mono SC.out ?_)
    rintro ee w1 ⟨⟨v0, rfl, hO1⟩, hb1⟩
    have R1 := R0.out.below hb1 (by omega)
    have HB1 := Lib.hid (HB0.out.trans (hb1.mono HB0.out.size))
    obtain ⟨c0, c1, c2', c3⟩ := R1.c
    have f0 := R1.f 0
    have f1 := R1.f 1
    have f2 := R1.f 2
    have f3 := R1.f 3
    clear SC hO1 R1 R0 hb1 HB0
    go_wp2_with fail
    refine bodyPost_ret (v := .tuple #[.agg #[.int .i64 0, .int .i64 0, .string ⟨#[]⟩, .slice none 0 0], .bool false]) (by simp [results, Tryz.results9, go_sem, c0, c1, c2', c3]) rfl ?_
    exact NN.out _ _ HB1.out rfl
  · rw [readF_ok hcr]
    clear hcr
    have RC := Lib.hid (readW_cases ws)
    have HLS := Lib.hid (fun e r => (rd_less nmB 6100).L 1 ws e r (by omega))
    have HBK := Lib.hid (fun e r => (rd_bulk nmB 6100).L 1 ws e r HV.out)
    go_enter Tryz.func9, Tryz.ntmps9
    go_wp2_with fail
    (with_reducible refine Calls.mono SC.out ?_)
    rintro ee w1 ⟨⟨v0, rfl, hO1⟩, hb1⟩
    obtain ⟨A0, cap0, rfl, hW1⟩ := words_own hO1
    have R1 := Lib.hid (R0.out.below hb1 (by omega))
    have HB1 := Lib.hid (HB0.out.trans (hb1.mono HB0.out.size))
    have L1 := Lib.hid (((mod_all A0 cap0 ws hlen' HV.out 6100) 6100 (Nat.le_refl _)).L 1 0 w1 (by omega) (by omega) (Nat.zero_le _) (by omega) hW1)
    have hs1 := hb1.size
    clear SC hO1 R0 hb1 HB0 hW1 HV
    rw [List.drop_zero] at L1
    go_wp2_with fail
    (with_reducible refine Calls.mono L1.out ?_)
    rintro ee w2 ⟨x, A2, cc, rfl, hp2, hb2, hx⟩
    unfold exV
    have hal := (Below.refl w2.heap.size w2).alloc (Nat.le_refl _) (.cells #[.int .i64 x.op, .int .i64 x.n, .string x.name, .slice A2 x.kids.length cc] 24)
    have b0 := alloc_cell w2 #[.int .i64 x.op, .int .i64 x.n, .string x.name, .slice A2 x.kids.length cc] 24 (0, 0) 0
    have b1 := alloc_cell w2 #[.int .i64 x.op, .int .i64 x.n, .string x.name, .slice A2 x.kids.length cc] 24 (0, 0) 1
    have b2 := alloc_cell w2 #[.int .i64 x.op, .int .i64 x.n, .string x.name, .slice A2 x.kids.length cc] 24 (0, 0) 2
    have b3 := alloc_cell w2 #[.int .i64 x.op, .int .i64 x.n, .string x.name, .slice A2 x.kids.length cc] 24 (0, 0) 3
    replace b0 : (w2.alloc (.cells #[.int .i64 x.op, .int .i64 x.n, .string x.name, .slice A2 x.kids.length cc] 24)).cell? ⟨w2.heap.size, 0, none⟩ = some (.int .i64 x.op) := b0
    replace b1 : (w2.alloc (.cells #[.int .i64 x.op, .int .i64 x.n, .string x.name, .slice A2 x.kids.length cc] 24)).cell? ⟨w2.heap.size, 1, none⟩ = some (.int .i64 x.n) := b1
    replace b2 : (w2.alloc (.cells #[.int .i64 x.op, .int .i64 x.n, .string x.name, .slice A2 x.kids.length cc] 24)).cell? ⟨w2.heap.size, 2, none⟩ = some (.string x.name) := b2
    replace b3 : (w2.alloc (.cells #[.int .i64 x.op, .int .i64 x.n, .string x.name, .slice A2 x.kids.length cc] 24)).cell? ⟨w2.heap.size, 3, none⟩ = some (.slice A2 x.kids.length cc) := b3
    have hs2 := hb2.size
    have hs3 : w2.heap.size < (w2.alloc (.cells #[.int .i64 x.op, .int .i64 x.n, .string x.name, .slice A2 x.kids.length cc] 24)).heap.size := by rw [World.size_alloc]; omega
    have hba := hb2.trans (hal.mono hb2.size)
    have HR3 := Lib.hid (R1.out.below hba (by omega))
    have HB3 := Lib.hid (HB1.out.trans (hba.mono HB1.out.size))
    have HP3 := Lib.hid (PdS.later hp2 hal (Nat.le_refl _) hal.size)
    have HX := Lib.hid hx
    clear L1 hp2 hb2 hx hal hba R1 HB1
    go_upto_region 5 with (fail)
    generalize w2.alloc (.cells #[.int .i64 x.op, .int .i64 x.n, .string x.name, .slice A2 x.kids.length cc] 24) = w3 at *
    have hw1 : w.heap.size < w1.heap.size := by omega
    rcases RC.out with ⟨h1, h2⟩ | ⟨e, r, h1, h2⟩
    · rw [h1]
      have H2 := Lib.hid h2
      have e1 : nextI ws.length (none : Option (E × List W)) = -1 := rfl
      rw [e1]
      have q1 : ((-1 : Int) != (ws.length : Int)) = true := by rw [bne, beq_no (by omega)]; rfl
      obtain ⟨c0, c1, c2', c3⟩ := HR3.out.c
      have f0 := HR3.out.f 0
      have f1 := HR3.out.f 1
      have f2 := HR3.out.f 2
      have f3 := HR3.out.f 3
      clear h1 h2 e1 RC HLS HBK HX
      go_wp2_with fail
      refine bodyPost_ret (v := .tuple #[.agg #[.int .i64 0, .int .i64 0, .string ⟨#[]⟩, .slice none 0 0], .bool false]) (by simp [results, Tryz.results9, go_sem, c0, c1, c2', c3]) rfl ?_
      rw [H2.out]
      exact NN.out _ _ HB3.out rfl
    · obtain rfl : x = e := HX.out _ h1
      obtain ⟨a1, a2, _, _⟩ := HLS.out _ _ h1
      have hbk := (HBK.out _ _ h1).2
      have e1 : nextI ws.length (some (x, r)) = ((ws.length - r.length : Nat) : Int) := rfl
      have H2 := Lib.hid h2
      rw [h1, e1]
      clear h1 h2 e1 RC HLS HBK HX
      by_cases hr : r = []
      · subst hr
        have q0 : ws.length - ([] : List W).length = ws.length := rfl
        have q1 : ((ws.length : Int) != (ws.length : Int)) = false := by simp
        have V3 := Lib.hid (specExprValid_any x A2 cc w3 (HP3.out.rd fun _ h => h.2.1) (by simp at hbk; omega))
        unfold exV at V3
        rw [q0]
        clear q0 a1 a2 hbk
        cases hv : validE x
        · rw [hv] at V3
          have H3 := Lib.hid (show readW ws = (E.none, false) by rw [H2.out, hv, if_neg (by simp)])
          clear hv
          go_wp2_with fail
          (with_reducible refine Calls.mono V3.out ?_)
          rintro ee w4 ⟨rfl, hb4⟩
          have R4 := HR3.out.below hb4 HR3.out.lt
          have HB4 := Lib.hid (HB3.out.trans (hb4.mono HB3.out.size))
          obtain ⟨c0, c1, c2', c3⟩ := R4.c
          have f0 := R4.f 0
          have f1 := R4.f 1
          have f2 := R4.f 2
          have f3 := R4.f 3
          clear V3 hb4 R4
          go_wp2_with fail
          refine bodyPost_ret (v := .tuple #[.agg #[.int .i64 0, .int .i64 0, .string ⟨#[]⟩, .slice none 0 0], .bool false]) (by simp [results, Tryz.results9, go_sem, c0, c1, c2', c3]) rfl ?_
          rw [H3.out]
          exact NN.out _ _ HB4.out rfl
        · rw [hv] at V3
          have H3 := Lib.hid (show readW ws = (x, true) by rw [H2.out, hv, if_pos ⟨rfl, rfl⟩])
          clear hv
          go_wp2_with fail
          (with_reducible refine Calls.mono V3.out ?_)
          rintro ee w4 ⟨rfl, hb4⟩
          have R4 := HR3.out.below hb4 HR3.out.lt
          have HB4 := Lib.hid (HB3.out.trans (hb4.mono HB3.out.size))
          have HP4 := Lib.hid (PdS.later HP3.out hb4 (Nat.le_refl _) hb4.size)
          have k0 := (hb4.cell (p := ⟨w2.heap.size, 0, none⟩) hs3).trans b0
          have k1 := (hb4.cell (p := ⟨w2.heap.size, 1, none⟩) hs3).trans b1
          have k2 := (hb4.cell (p := ⟨w2.heap.size, 2, none⟩) hs3).trans b2
          have k3 := (hb4.cell (p := ⟨w2.heap.size, 3, none⟩) hs3).trans b3
          obtain ⟨c0, c1, c2', c3⟩ := R4.c
          have f0 := R4.f 0
          have f1 := R4.f 1
          have f2 := R4.f 2
          have f3 := R4.f 3
          clear V3 hb4 R4 b0 b1 b2 b3
          go_wp2_with fail
          refine bodyPost_ret (v := .tuple #[.agg #[.int .i64 x.op, .int .i64 x.n, .string x.name, .slice A2 x.kids.length cc], .bool true]) (by simp [results, Tryz.results9, go_sem, c0, c1, c2', c3]) rfl ?_
          rw [H3.out]
          refine ⟨A2, cc, rfl, ?_, below_four HB4.out (Nat.le_refl _) _ _ _ _⟩
          have h := PdS.four' HP4.out hw1 (.int .i64 x.op) (.int .i64 x.n) (.string x.name) (.slice A2 x.kids.length cc)
          exact h.wide (by omega) (by simp)
      · have hrl : 0 < r.length := List.length_pos_iff.2 hr
        have hrl2 := a1.length_le
        have q1 : (((ws.length - r.length : Nat) : Int) != (ws.length : Int)) = true := by rw [bne, beq_no (by omega)]; rfl
        have H3 := Lib.hid (show readW ws = (E.none, false) by rw [H2.out, if_neg (fun h => hr h.1)])
        obtain ⟨c0, c1, c2', c3⟩ := HR3.out.c
        have f0 := HR3.out.f 0
        have f1 := HR3.out.f 1
        have f2 := HR3.out.f 2
        have f3 := HR3.out.f 3
        clear a1 a2 hbk hr hrl hrl2
        generalize ws.length - r.length = k2 at *
        go_wp2_with fail
        refine bodyPost_ret (v := .tuple #[.agg #[.int .i64 0, .int .i64 0, .string ⟨#[]⟩, .slice none 0 0], .bool false]) (by simp [results, Tryz.results9, go_sem, c0, c1, c2', c3]) rfl ?_
        rw [H3.out]
        exact NN.out _ _ HB3.out rfl
end Go.Proofs.YtkhcfhhejmkikaaGreatDoor
