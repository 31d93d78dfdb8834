/-
  What the laws' own helpers do with statements: two that are one are told to be one.
-/
import Derived.Test.YtljdbjfbcjigaaaT2
namespace Go.Proofs.Ytljdbjfbcjigaaa
open Go.RowKit
set_option maxRecDepth 100000

open Classical in
theorem eqLB_yes (a : List E) : eqLB a a = true := by unfold eqLB; rw [decide_eq_true_eq]
theorem eqExprS_self (ks : List E) (A : Option Addr) (cap : Nat) (A' : Option Addr) (cap' : Nat) (w : World) (h1 : RdS w w.heap.size ks A) (h2 : RdS w w.heap.size ks A') (hl : bulkL ks ≤ 2000000) :
    Calls Try.prog 40 #[.slice A ks.length cap, .slice A' ks.length cap'] w (BoolB true w) := by
  have := eqExprS_of ks (fun k _ => eqExpr_any k) ks A cap A' cap' w h1 h2 hl hl
  rw [eqLB_yes] at this
  exact this
theorem boxes55 (w : World) (a0 a1 a2 a3 a4 b0 b1 b2 b3 b4 : Value) (t : TypeId) :
    ((w.alloc (.cells #[a0, a1, a2, a3, a4] t)).alloc (.cells #[b0, b1, b2, b3, b4] t)).cell? ⟨w.heap.size, 3, none⟩ = some a3 ∧
    ((w.alloc (.cells #[a0, a1, a2, a3, a4] t)).alloc (.cells #[b0, b1, b2, b3, b4] t)).cell? ⟨w.heap.size, 4, none⟩ = some a4 ∧
    ((w.alloc (.cells #[a0, a1, a2, a3, a4] t)).alloc (.cells #[b0, b1, b2, b3, b4] t)).cell? ⟨w.heap.size + 1, 3, none⟩ = some b3 ∧
    ((w.alloc (.cells #[a0, a1, a2, a3, a4] t)).alloc (.cells #[b0, b1, b2, b3, b4] t)).cell? ⟨w.heap.size + 1, 4, none⟩ = some b4 ∧
    w.heap.size + 1 < ((w.alloc (.cells #[a0, a1, a2, a3, a4] t)).alloc (.cells #[b0, b1, b2, b3, b4] t)).heap.size ∧ Below w.heap.size w ((w.alloc (.cells #[a0, a1, a2, a3, a4] t)).alloc (.cells #[b0, b1, b2, b3, b4] t)) := by
  have s1 : (w.alloc (.cells #[a0, a1, a2, a3, a4] t)).heap.size = w.heap.size + 1 := World.size_alloc _ _
  have hal := (Below.refl _ (w.alloc (.cells #[a0, a1, a2, a3, a4] t))).alloc (Nat.le_refl _) (.cells #[b0, b1, b2, b3, b4] t)
  have A := fun k => alloc_cell w #[a0, a1, a2, a3, a4] t (0, 0) k
  have B := fun k => alloc_cell (w.alloc (.cells #[a0, a1, a2, a3, a4] t)) #[b0, b1, b2, b3, b4] t (0, 0) k
  rw [s1] at B
  have hlt : w.heap.size < (w.alloc (.cells #[a0, a1, a2, a3, a4] t)).heap.size := by omega
  exact ⟨(hal.cell (p := ⟨w.heap.size, 3, none⟩) hlt).trans (A 3), (hal.cell (p := ⟨w.heap.size, 4, none⟩) hlt).trans (A 4), B 3, B 4, by rw [World.size_alloc, s1]; omega, two_boxes w _ _⟩
def EqT (t : St) : Prop := ∀ (v v' : Value) (w : World), StV w (Lt w.heap.size) t v → StV w (Lt w.heap.size) t v' → bulkT t ≤ 2000000 → Calls Try.prog 37 #[v, v'] w (BoolB true w)
def EqTL (ks : List St) : Prop := ∀ (A : Option Addr) (cap : Nat) (A' : Option Addr) (cap' : Nat) (w : World), StS w (Lt w.heap.size) ks A → StS w (Lt w.heap.size) ks A' → bulkTL ks ≤ 2000000 →
  Calls Try.prog 31 #[.slice A ks.length cap, .slice A' ks.length cap'] w (BoolB true w)
set_option maxHeartbeats 2000000 in
theorem eqStmt_of (t : St) (HB : EqTL t.body) (HE : EqTL t.els) : EqT t := by
  intro v v' w hV hV' hbk
  obtain ⟨A1, p1, A2, p2, A3, p3, rfl, r1, r2, r3⟩ := hV
  obtain ⟨B1, q1, B2, q2, B3, q3, rfl, s1, s2, s3⟩ := hV'
  rw [bulkT_kids] at hbk
  obtain ⟨op, s, a, bd, el⟩ := t
  dsimp only [St.op, St.name, St.args, St.body, St.els] at *
  obtain ⟨c3, c4, d3, d4, hlt, hb⟩ := boxes55 w (.int .i64 op) (.string s) (.slice A1 a.length p1) (.slice A2 bd.length p2) (.slice A3 el.length p3) (.int .i64 op) (.string s) (.slice B1 a.length q1) (.slice B2 bd.length q2) (.slice B3 el.length q3) 49
  have CA := Lib.hid (eqExprS_self a A1 p1 B1 q1 _ (r1.on hb hb.size).lt_rd (s1.on hb hb.size).lt_rd (by omega))
  have CB := fun W hh => Lib.hid (HB A2 p2 B2 q2 W (r2.on (w' := W) (B' := W.heap.size) hh hh.size) (s2.on (w' := W) (B' := W.heap.size) hh hh.size) (by omega))
  have CE := fun W hh => Lib.hid (HE A3 p3 B3 q3 W (r3.on (w' := W) (B' := W.heap.size) hh hh.size) (s3.on (w' := W) (B' := W.heap.size) hh hh.size) (by omega))
  clear HB HE r1 r2 r3 s1 s2 s3 hbk
  have e1 : (op != op) = false := by simp
  have e2 : (s.toList == s.toList) = true := by simp
  have hbs := hb.size
  have hlt0 : w.heap.size < ((w.alloc (.cells #[.int .i64 op, .string s, .slice A1 a.length p1, .slice A2 bd.length p2, .slice A3 el.length p3] 49)).alloc (.cells #[.int .i64 op, .string s, .slice B1 a.length q1, .slice B2 bd.length q2, .slice B3 el.length q3] 49)).heap.size := Nat.lt_of_succ_lt hlt
  go_enter Try.func37, Try.ntmps37
  go_wp2_with fail
  (with_reducible refine Calls.mono CA.out ?_)
  rintro ee w1 ⟨rfl, hb1⟩
  have hb2 := hb.trans (hb1.mono hbs)
  replace c3 := (hb1.cell (p := ⟨w.heap.size, 3, none⟩) hlt0).trans c3
  replace c4 := (hb1.cell (p := ⟨w.heap.size, 4, none⟩) hlt0).trans c4
  replace d3 := (hb1.cell (p := ⟨w.heap.size + 1, 3, none⟩) hlt).trans d3
  replace d4 := (hb1.cell (p := ⟨w.heap.size + 1, 4, none⟩) hlt).trans d4
  replace hlt := Nat.lt_of_lt_of_le hlt hb1.size
  replace hlt0 := Nat.lt_of_lt_of_le hlt0 hb1.size
  clear hb hb1 hbs CA e1 e2
  go_wp2_with fail
  (with_reducible refine Calls.mono (CB _ hb2).out ?_)
  rintro ee w2 ⟨rfl, hb3⟩
  have hb4 := hb2.trans (hb3.mono hb2.size)
  replace c4 := (hb3.cell (p := ⟨w.heap.size, 4, none⟩) hlt0).trans c4
  replace d4 := (hb3.cell (p := ⟨w.heap.size + 1, 4, none⟩) hlt).trans d4
  clear hb2 hb3 CB c3 d3
  go_wp2_with fail
  (with_reducible refine Calls.mono (CE _ hb4).out ?_)
  rintro ee w3 ⟨rfl, hb5⟩
  have hb6 := hb4.trans (hb5.mono hb4.size)
  go_wp2_with fail
  go_ret
  exact ⟨rfl, hb6⟩
set_option maxHeartbeats 2000000 in
theorem eqStmtS_of (ks : List St) (H : ∀ k ∈ ks, EqT k) : EqTL ks := by
  intro A cap A' cap' w hR hR' hks
  have hn : ks.length ≤ 2000000 := by have := length_le_bulkTL ks; omega
  have HKS := Lib.hid hks
  clear hks
  have HK := fun i (h : i < ks.length) => H _ (List.getElem_mem h)
  clear H
  unfold EqT at HK
  replace HK := Lib.hid HK
  have HR := Lib.hid hR
  have HR' := Lib.hid hR'
  clear hR hR'
  have e1 : ((ks.length : Int) != (ks.length : Int)) = false := by simp
  go_enter Try.func31, Try.ntmps31
  go_wp2_with fail
  clear e1
  go_loopw [5] (fun i wr => ∃ (k : Nat), k ≤ ks.length ∧ i = .int .i64 k ∧ Below w.heap.size w wr) (fun i _ => ks.length - (intOf i).toNat)
  case atStart => exact ⟨0, Nat.zero_le _, rfl, Below.refl _ _⟩
  case round =>
    obtain ⟨k, hk, rfl, hb⟩ := hrel
    by_cases hlt : k < ks.length
    · have hbs := hb.size
      obtain ⟨b, o, rfl, hB, ⟨c0, c1⟩, ⟨A1, p1, c2, r1⟩, ⟨A2, p2, c3, r2⟩, A3, p3, c4, r3⟩ := (HR.out.on hb hbs).at_ hlt
      obtain ⟨b', o', rfl, hB', ⟨d0, d1⟩, ⟨B1, q1, d2, s1⟩, ⟨B2, q2, d3, s2⟩, B3, q3, d4, s3⟩ := (HR'.out.on hb hbs).at_ hlt
      have hm1 : bulkT ks[k] ≤ 2000000 := by have := bulkTL_mem (List.getElem_mem hlt); have := HKS.out; omega
      have hdr := (Below.refl wr.heap.size wr).drew
      have CK := HK.out k hlt _ _ wr.drew ⟨A1, p1, A2, p2, A3, p3, rfl, r1.on hdr hdr.size, r2.on hdr hdr.size, r3.on hdr hdr.size⟩ ⟨B1, q1, B2, q2, B3, q3, rfl, s1.on hdr hdr.size, s2.on hdr hdr.size, s3.on hdr hdr.size⟩ hm1
      clear hm1 r1 r2 r3 s1 s2 s3 hdr
      generalize ks[k] = x at *
      obtain ⟨op, s, a, bd, el⟩ := x
      dsimp only [St.op, St.name, St.args, St.body, St.els] at c0 c1 c2 c3 c4 d0 d1 d2 d3 d4 CK
      have hBr : b < wr.heap.size := hB
      have hBr' : b' < wr.heap.size := hB'
      go_wp2_with fail
      replace CK := Lib.hid CK
      go_region_held3 (fun u => u.cell? ⟨b, o + k * 5, none⟩ = some (.int .i64 op) ∧ u.cell? ⟨b, o + k * 5 + 1, none⟩ = some (.string s) ∧ u.cell? ⟨b, o + k * 5 + 2, none⟩ = some (.slice A1 a.length p1) ∧ u.cell? ⟨b, o + k * 5 + 3, none⟩ = some (.slice A2 bd.length p2) ∧ u.cell? ⟨b, o + k * 5 + 4, none⟩ = some (.slice A3 el.length p3) ∧ u.cell? ⟨b', o' + k * 5, none⟩ = some (.int .i64 op) ∧ u.cell? ⟨b', o' + k * 5 + 1, none⟩ = some (.string s) ∧ u.cell? ⟨b', o' + k * 5 + 2, none⟩ = some (.slice B1 a.length q1) ∧ u.cell? ⟨b', o' + k * 5 + 3, none⟩ = some (.slice B2 bd.length q2) ∧ u.cell? ⟨b', o' + k * 5 + 4, none⟩ = some (.slice B3 el.length q3)) (go_keep)
        (first | (go_at_call 37; (with_reducible refine Calls.mono CK.out ?_); rintro e w' ⟨rfl, hb1⟩; have g0 := (hb1.cell (p := ⟨b, o + k * 5, none⟩) hBr).trans c0; have g1 := (hb1.cell (p := ⟨b, o + k * 5 + 1, none⟩) hBr).trans c1; have g2 := (hb1.cell (p := ⟨b, o + k * 5 + 2, none⟩) hBr).trans c2; have g3 := (hb1.cell (p := ⟨b, o + k * 5 + 3, none⟩) hBr).trans c3; have g4 := (hb1.cell (p := ⟨b, o + k * 5 + 4, none⟩) hBr).trans c4; have q0 := (hb1.cell (p := ⟨b', o' + k * 5, none⟩) hBr').trans d0; have q1 := (hb1.cell (p := ⟨b', o' + k * 5 + 1, none⟩) hBr').trans d1; have q2 := (hb1.cell (p := ⟨b', o' + k * 5 + 2, none⟩) hBr').trans d2; have q3 := (hb1.cell (p := ⟨b', o' + k * 5 + 3, none⟩) hBr').trans d3; have q4 := (hb1.cell (p := ⟨b', o' + k * 5 + 4, none⟩) hBr').trans d4))
      all_goals
        have hb2 := hb.drew.trans (hb1.mono hbs)
        clear hb hb1
        go_wp2_with fail
        go_roundw
        case rel => exact ⟨k + 1, by omega, by go_num, hb2⟩
        case measure => simp only [intOf]; omega
    · obtain rfl : k = ks.length := by omega
      go_wp2_with fail
      go_ret
      exact ⟨rfl, hb⟩
theorem eqStmt_any (t : St) : EqT t := by
  refine St.ind (P := fun e => EqT e) ?_ t
  intro e ih1 ih2
  exact eqStmt_of e (eqStmtS_of _ fun k hk => ih1 k hk) (eqStmtS_of _ fun k hk => ih2 k hk)
theorem eqStmtS_any (ks : List St) : EqTL ks := eqStmtS_of ks fun k _ => eqStmt_any k
end Go.Proofs.Ytljdbjfbcjigaaa
