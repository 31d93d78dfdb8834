/-
  What closes every law: a call that answers true and turns nothing that was there leaves arguments and variables as they read. Nothing of a program stands here.
-/
import Derived.Test.YtljdbjfbcjigaaaGreatDoorMg17
import Derived.Test.YtljdbjfbcjigaaaGreatDoorMg21
import Derived.Test.YtljdbjfbcjigaaaGreatDoorMg22
import Derived.Test.YtljdbjfbcjigaaaGreatDoorMg23
import Derived.Test.YtljdbjfbcjigaaaGreatDoorMg31
import Derived.Test.YtljdbjfbcjigaaaGreatDoorMg5
import Derived.Deep.RegionHeld3
import Derived.ProofKit
import Derived.LaidMore
import Derived.OpenShut
import Derived.Stop.Joined
import Derived.Carry
import Derived.ChangeSame
import Derived.Lib.LaidTab
import Derived.WalkSmall
import Derived.MakeChecks
namespace Go.Proofs.YtljdbjfbcjigaaaGreatDoor
open Go.RowKit
set_option maxRecDepth 100000

open Classical in
theorem eqLB_yes (a : List E) : eqLB a a = true := by unfold eqLB; rw [decide_eq_true_eq]
theorem eqExprS_self (ks : List E) (A : Option Addr) (cap : Nat) (A' : Option Addr) (cap' : Nat) (w : World) (h1 : RdS w w.heap.size ks A) (h2 : RdS w w.heap.size ks A') (hl : bulkL ks ≤ 2000000) :
    Calls Tryz.prog 39 #[.slice A ks.length cap, .slice A' ks.length cap'] w (BoolB true w) := by
  have := eqExprS_of ks (fun k _ => eqExpr_any k) ks A cap A' cap' w h1 h2 hl hl
  rw [eqLB_yes] at this
  exact this
theorem boxes55 (w : World) (a0 a1 a2 a3 a4 b0 b1 b2 b3 b4 : Value) (t : TypeId) :
    ((w.alloc (.cells #[a0, a1, a2, a3, a4] t)).alloc (.cells #[b0, b1, b2, b3, b4] t)).cell? ⟨w.heap.size, 3, none⟩ = some a3 ∧
    ((w.alloc (.cells #[a0, a1, a2, a3, a4] t)).alloc (.cells #[b0, b1, b2, b3, b4] t)).cell? ⟨w.heap.size, 4, none⟩ = some a4 ∧
    ((w.alloc (.cells #[a0, a1, a2, a3, a4] t)).alloc (.cells #[b0, b1, b2, b3, b4] t)).cell? ⟨w.heap.size + 1, 3, none⟩ = some b3 ∧
    ((w.alloc (.cells #[a0, a1, a2, a3, a4] t)).alloc (.cells #[b0, b1, b2, b3, b4] t)).cell? ⟨w.heap.size + 1, 4, none⟩ = some b4 ∧
    w.heap.size + 1 < ((w.alloc (.cells #[a0, a1, a2, a3, a4] t)).alloc (.cells #[b0, b1, b2, b3, b4] t)).heap.size ∧ Below w.heap.size w ((w.alloc (.cells #[a0, a1, a2, a3, a4] t)).alloc (.cells #[b0, b1, b2, b3, b4] t)) := by
  have s1 : (w.alloc (.cells #[a0, a1, a2, a3, a4] t)).heap.size = w.heap.size + 1 := World.size_alloc _ _
  have hal := (Below.refl _ (w.alloc (.cells #[a0, a1, a2, a3, a4] t))).alloc (Nat.le_refl _) (.cells #[b0, b1, b2, b3, b4] t)
  have A := fun k => alloc_cell w #[a0, a1, a2, a3, a4] t (0, 0) k
  have B := fun k => alloc_cell (w.alloc (.cells #[a0, a1, a2, a3, a4] t)) #[b0, b1, b2, b3, b4] t (0, 0) k
  rw [s1] at B
  have hlt : w.heap.size < (w.alloc (.cells #[a0, a1, a2, a3, a4] t)).heap.size := by omega
  exact ⟨(hal.cell (p := ⟨w.heap.size, 3, none⟩) hlt).trans (A 3), (hal.cell (p := ⟨w.heap.size, 4, none⟩) hlt).trans (A 4), B 3, B 4, by rw [World.size_alloc, s1]; omega, two_boxes w _ _⟩
def EqT (t : St) : Prop := ∀ (v v' : Value) (w : World), StV w (Lt w.heap.size) t v → StV w (Lt w.heap.size) t v' → bulkT t ≤ 2000000 → Calls Tryz.prog 199 #[v, v'] w (BoolB true w)
def EqTL (ks : List St) : Prop := ∀ (A : Option Addr) (cap : Nat) (A' : Option Addr) (cap' : Nat) (w : World), StS w (Lt w.heap.size) ks A → StS w (Lt w.heap.size) ks A' → bulkTL ks ≤ 2000000 →
  Calls Tryz.prog 147 #[.slice A ks.length cap, .slice A' ks.length cap'] w (BoolB true w)
set_option maxHeartbeats 2000000 in
theorem eqStmt_of (t : St) (HB : EqTL t.body) (HE : EqTL t.els) : EqT t := by
  intro v v' w hV hV' hbk
  obtain ⟨A1, p1, A2, p2, A3, p3, rfl, r1, r2, r3⟩ := hV
  obtain ⟨B1, q1, B2, q2, B3, q3, rfl, s1, s2, s3⟩ := hV'
  rw [bulkT_kids] at hbk
  obtain ⟨op, s, a, bd, el⟩ := t
  dsimp only [St.op, St.name, St.args, St.body, St.els] at *
  obtain ⟨c3, c4, d3, d4, hlt, hb⟩ := boxes55 w (.int .i64 op) (.string s) (.slice A1 a.length p1) (.slice A2 bd.length p2) (.slice A3 el.length p3) (.int .i64 op) (.string s) (.slice B1 a.length q1) (.slice B2 bd.length q2) (.slice B3 el.length q3) 209
  have CA := Lib.hid (eqExprS_self a A1 p1 B1 q1 _ (r1.on hb hb.size).lt_rd (s1.on hb hb.size).lt_rd (by omega))
  have CB := fun W hh => Lib.hid (HB A2 p2 B2 q2 W (r2.on (w' := W) (B' := W.heap.size) hh hh.size) (s2.on (w' := W) (B' := W.heap.size) hh hh.size) (by omega))
  have CE := fun W hh => Lib.hid (HE A3 p3 B3 q3 W (r3.on (w' := W) (B' := W.heap.size) hh hh.size) (s3.on (w' := W) (B' := W.heap.size) hh hh.size) (by omega))
  clear HB HE r1 r2 r3 s1 s2 s3 hbk
  have e1 : (op != op) = false := by simp
  have e2 : (s.toList == s.toList) = true := by simp
  have hbs := hb.size
  have hlt0 : w.heap.size < ((w.alloc (.cells #[.int .i64 op, .string s, .slice A1 a.length p1, .slice A2 bd.length p2, .slice A3 el.length p3] 209)).alloc (.cells #[.int .i64 op, .string s, .slice B1 a.length q1, .slice B2 bd.length q2, .slice B3 el.length q3] 209)).heap.size := Nat.lt_of_succ_lt hlt
  go_enter Tryz.func199, Tryz.ntmps199
  go_wp2_with fail
  (with_reducible refine Calls.mono CA.out ?_)
  rintro ee w1 ⟨rfl, hb1⟩
  have hb2 := hb.trans (hb1.mono hbs)
  replace c3 := (hb1.cell (p := ⟨w.heap.size, 3, none⟩) hlt0).trans c3
  replace c4 := (hb1.cell (p := ⟨w.heap.size, 4, none⟩) hlt0).trans c4
  replace d3 := (hb1.cell (p := ⟨w.heap.size + 1, 3, none⟩) hlt).trans d3
  replace d4 := (hb1.cell (p := ⟨w.heap.size + 1, 4, none⟩) hlt).trans d4
  replace hlt := Nat.lt_of_lt_of_le hlt hb1.size
  replace hlt0 := Nat.lt_of_lt_of_le hlt0 hb1.size
  clear hb hb1 hbs CA e1 e2
  go_wp2_with fail
  (with_reducible refine Calls.mono (CB _ hb2).out ?_)
  rintro ee w2 ⟨rfl, hb3⟩
  have hb4 := hb2.trans (hb3.mono hb2.size)
  replace c4 := (hb3.cell (p := ⟨w.heap.size, 4, none⟩) hlt0).trans c4
  replace d4 := (hb3.cell (p := ⟨w.heap.size + 1, 4, none⟩) hlt).trans d4
  clear hb2 hb3 CB c3 d3
  go_wp2_with fail
  (with_reducible refine Calls.mono (CE _ hb4).out ?_)
  rintro ee w3 ⟨rfl, hb5⟩
  have hb6 := hb4.trans (hb5.mono hb4.size)
  go_wp2_with fail
  go_ret
  exact ⟨rfl, hb6⟩
set_option maxHeartbeats 2000000 in
theorem eqStmtS_of (ks : List St) (H : ∀ k ∈ ks, EqT k) : EqTL ks := by
  intro A cap A' cap' w hR hR' hks
  have hn : ks.length ≤ 2000000 := by have := length_le_bulkTL ks; omega
  have HKS := Lib.hid hks
  clear hks
  have HK := fun i (h : i < ks.length) => H _ (List.getElem_mem h)
  clear H
  unfold EqT at HK
  replace HK := Lib.hid HK
  have HR := Lib.hid hR
  have HR' := Lib.hid hR'
  clear hR hR'
  have e1 : ((ks.length : Int) != (ks.length : Int)) = false := by simp
  go_enter Tryz.func147, Tryz.ntmps147
  go_wp2_with fail
  clear e1
  go_loopw [5] (fun i wr => ∃ (k : Nat), k ≤ ks.length ∧ i = .int .i64 k ∧ Below w.heap.size w wr) (fun i _ => ks.length - (intOf i).toNat)
  case atStart => exact ⟨0, Nat.zero_le _, rfl, Below.refl _ _⟩
  case round =>
    obtain ⟨k, hk, rfl, hb⟩ := hrel
    by_cases hlt : k < ks.length
    · have hbs := hb.size
      obtain ⟨b, o, rfl, hB, ⟨c0, c1⟩, ⟨A1, p1, c2, r1⟩, ⟨A2, p2, c3, r2⟩, A3, p3, c4, r3⟩ := (HR.out.on hb hbs).at_ hlt
      obtain ⟨b', o', rfl, hB', ⟨d0, d1⟩, ⟨B1, q1, d2, s1⟩, ⟨B2, q2, d3, s2⟩, B3, q3, d4, s3⟩ := (HR'.out.on hb hbs).at_ hlt
      have hm1 : bulkT ks[k] ≤ 2000000 := by have := bulkTL_mem (List.getElem_mem hlt); have := HKS.out; omega
      have hdr := (Below.refl wr.heap.size wr).drew
      have CK := HK.out k hlt _ _ wr.drew ⟨A1, p1, A2, p2, A3, p3, rfl, r1.on hdr hdr.size, r2.on hdr hdr.size, r3.on hdr hdr.size⟩ ⟨B1, q1, B2, q2, B3, q3, rfl, s1.on hdr hdr.size, s2.on hdr hdr.size, s3.on hdr hdr.size⟩ hm1
      clear hm1 r1 r2 r3 s1 s2 s3 hdr
      generalize ks[k] = x at *
      obtain ⟨op, s, a, bd, el⟩ := x
      dsimp only [St.op, St.name, St.args, St.body, St.els] at c0 c1 c2 c3 c4 d0 d1 d2 d3 d4 CK
      have hBr : b < wr.heap.size := hB
      have hBr' : b' < wr.heap.size := hB'
      go_wp2_with fail
      replace CK := Lib.hid CK
      go_region_held3 (fun u => u.cell? ⟨b, o + k * 5, none⟩ = some (.int .i64 op) ∧ u.cell? ⟨b, o + k * 5 + 1, none⟩ = some (.string s) ∧ u.cell? ⟨b, o + k * 5 + 2, none⟩ = some (.slice A1 a.length p1) ∧ u.cell? ⟨b, o + k * 5 + 3, none⟩ = some (.slice A2 bd.length p2) ∧ u.cell? ⟨b, o + k * 5 + 4, none⟩ = some (.slice A3 el.length p3) ∧ u.cell? ⟨b', o' + k * 5, none⟩ = some (.int .i64 op) ∧ u.cell? ⟨b', o' + k * 5 + 1, none⟩ = some (.string s) ∧ u.cell? ⟨b', o' + k * 5 + 2, none⟩ = some (.slice B1 a.length q1) ∧ u.cell? ⟨b', o' + k * 5 + 3, none⟩ = some (.slice B2 bd.length q2) ∧ u.cell? ⟨b', o' + k * 5 + 4, none⟩ = some (.slice B3 el.length q3)) (go_keep)
        (first | (go_at_call 199; (with_reducible refine Calls.mono CK.out ?_); rintro e w' ⟨rfl, hb1⟩; have g0 := (hb1.cell (p := ⟨b, o + k * 5, none⟩) hBr).trans c0; have g1 := (hb1.cell (p := ⟨b, o + k * 5 + 1, none⟩) hBr).trans c1; have g2 := (hb1.cell (p := ⟨b, o + k * 5 + 2, none⟩) hBr).trans c2; have g3 := (hb1.cell (p := ⟨b, o + k * 5 + 3, none⟩) hBr).trans c3; have g4 := (hb1.cell (p := ⟨b, o + k * 5 + 4, none⟩) hBr).trans c4; have q0 := (hb1.cell (p := ⟨b', o' + k * 5, none⟩) hBr').trans d0; have q1 := (hb1.cell (p := ⟨b', o' + k * 5 + 1, none⟩) hBr').trans d1; have q2 := (hb1.cell (p := ⟨b', o' + k * 5 + 2, none⟩) hBr').trans d2; have q3 := (hb1.cell (p := ⟨b', o' + k * 5 + 3, none⟩) hBr').trans d3; have q4 := (hb1.cell (p := ⟨b', o' + k * 5 + 4, none⟩) hBr').trans d4))
      all_goals
        have hb2 := hb.drew.trans (hb1.mono hbs)
        clear hb hb1
        go_wp2_with fail
        go_roundw
        case rel => exact ⟨k + 1, by omega, by go_num, hb2⟩
        case measure => simp only [intOf]; omega
    · obtain rfl : k = ks.length := by omega
      go_wp2_with fail
      go_ret
      exact ⟨rfl, hb⟩
theorem eqStmt_any (t : St) : EqT t := by
  refine St.ind (P := fun e => EqT e) ?_ t
  intro e ih1 ih2
  exact eqStmt_of e (eqStmtS_of _ fun k hk => ih1 k hk) (eqStmtS_of _ fun k hk => ih2 k hk)
theorem eqStmtS_any (ks : List St) : EqTL ks := eqStmtS_of ks fun k _ => eqStmt_any k
end Go.Proofs.YtljdbjfbcjigaaaGreatDoor

namespace Go.Proofs.YtljdbjfbcjigaaaGreatDoor
open Go.RowKit
set_option maxRecDepth 100000

theorem StrS.strs {w : World} {B : Nat} {ss : List ByteArray} {A : Option Addr} (h : StrS w (Lt B) ss A) : Strs w B A ss := by
  intro hne
  rcases h with h | ⟨b, o, e, hb, hc⟩
  · exact absurd h hne
  · exact ⟨b, o, e, hb, hc⟩
theorem boxes33 (w : World) (a0 a1 a2 b0 b1 b2 : Value) (t : TypeId) :
    ((w.alloc (.cells #[a0, a1, a2] t)).alloc (.cells #[b0, b1, b2] t)).cell? ⟨w.heap.size, 2, none⟩ = some a2 ∧
    ((w.alloc (.cells #[a0, a1, a2] t)).alloc (.cells #[b0, b1, b2] t)).cell? ⟨w.heap.size + 1, 2, none⟩ = some b2 ∧
    w.heap.size + 1 < ((w.alloc (.cells #[a0, a1, a2] t)).alloc (.cells #[b0, b1, b2] t)).heap.size ∧ Below w.heap.size w ((w.alloc (.cells #[a0, a1, a2] t)).alloc (.cells #[b0, b1, b2] t)) := by
  have s1 : (w.alloc (.cells #[a0, a1, a2] t)).heap.size = w.heap.size + 1 := World.size_alloc _ _
  have hal := (Below.refl _ (w.alloc (.cells #[a0, a1, a2] t))).alloc (Nat.le_refl _) (.cells #[b0, b1, b2] t)
  have A := fun k => alloc_cell w #[a0, a1, a2] t (0, 0) k
  have B := fun k => alloc_cell (w.alloc (.cells #[a0, a1, a2] t)) #[b0, b1, b2] t (0, 0) k
  rw [s1] at B
  have hlt : w.heap.size < (w.alloc (.cells #[a0, a1, a2] t)).heap.size := by omega
  exact ⟨(hal.cell (p := ⟨w.heap.size, 2, none⟩) hlt).trans (A 2), B 2, by rw [World.size_alloc, s1]; omega, two_boxes w _ _⟩
set_option maxHeartbeats 2000000 in
theorem eqFn_any (f : Fu) (v v' : Value) (w : World) (hV : FuV w (Lt w.heap.size) f v) (hV' : FuV w (Lt w.heap.size) f v') (hbk : bulkF f ≤ 2000000) :
    Calls Tryz.prog 88 #[v, v'] w (BoolB true w) := by
  obtain ⟨A1, p1, A2, p2, rfl, r1, r2⟩ := hV
  obtain ⟨B1, q1, B2, q2, rfl, s1, s2⟩ := hV'
  unfold bulkF at hbk
  obtain ⟨s, a, bd⟩ := f
  dsimp only at *
  have hla := length_le_bulkS a
  obtain ⟨c2, d2, hlt, hb⟩ := boxes33 w (.string s) (.slice A1 a.length p1) (.slice A2 bd.length p2) (.string s) (.slice B1 a.length q1) (.slice B2 bd.length q2) 70
  have CA0 := eqStringS_any A1 a p1 B1 a q1 _ (r1.on hb hb.size).strs (s1.on hb hb.size).strs (by omega) (by omega)
  rw [show decide (a = a) = true by simp] at CA0
  have CA := Lib.hid CA0
  have CB := fun W hh => Lib.hid (eqStmtS_any bd A2 p2 B2 q2 W (r2.on (w' := W) (B' := W.heap.size) hh hh.size) (s2.on (w' := W) (B' := W.heap.size) hh hh.size) (by omega))
  clear r1 r2 s1 s2 hbk CA0 hla
  have e2 : (s.toList == s.toList) = true := by simp
  have hbs := hb.size
  have hlt0 : w.heap.size < ((w.alloc (.cells #[.string s, .slice A1 a.length p1, .slice A2 bd.length p2] 70)).alloc (.cells #[.string s, .slice B1 a.length q1, .slice B2 bd.length q2] 70)).heap.size := Nat.lt_of_succ_lt hlt
  go_enter Tryz.func88, Tryz.ntmps88
  go_wp2_with fail
  (with_reducible refine Calls.mono CA.out ?_)
  rintro ee w1 ⟨rfl, hb1⟩
  have hb2 := hb.trans (hb1.mono hbs)
  replace c2 := (hb1.cell (p := ⟨w.heap.size, 2, none⟩) hlt0).trans c2
  replace d2 := (hb1.cell (p := ⟨w.heap.size + 1, 2, none⟩) hlt).trans d2
  clear hb hb1 hbs CA e2
  go_wp2_with fail
  (with_reducible refine Calls.mono (CB _ hb2).out ?_)
  rintro ee w2 ⟨rfl, hb3⟩
  have hb4 := hb2.trans (hb3.mono hb2.size)
  go_wp2_with fail
  go_ret
  exact ⟨rfl, hb4⟩
set_option maxHeartbeats 2000000 in
theorem eqFnS_any (ks : List Fu) (A : Option Addr) (cap : Nat) (A' : Option Addr) (cap' : Nat) (w : World) (hR : FuS w (Lt w.heap.size) ks A) (hR' : FuS w (Lt w.heap.size) ks A') (hks : bulkFL ks ≤ 2000000) :
    Calls Tryz.prog 49 #[.slice A ks.length cap, .slice A' ks.length cap'] w (BoolB true w) := by
  have hn : ks.length ≤ 2000000 := by have := length_le_bulkFL ks; omega
  have HKS := Lib.hid hks
  clear hks
  have HR := Lib.hid hR
  have HR' := Lib.hid hR'
  clear hR hR'
  have e1 : ((ks.length : Int) != (ks.length : Int)) = false := by simp
  go_enter Tryz.func49, Tryz.ntmps49
  go_wp2_with fail
  clear e1
  go_loopw [5] (fun i wr => ∃ (k : Nat), k ≤ ks.length ∧ i = .int .i64 k ∧ Below w.heap.size w wr) (fun i _ => ks.length - (intOf i).toNat)
  case atStart => exact ⟨0, Nat.zero_le _, rfl, Below.refl _ _⟩
  case round =>
    obtain ⟨k, hk, rfl, hb⟩ := hrel
    by_cases hlt : k < ks.length
    · have hbs := hb.size
      obtain ⟨b, o, rfl, hB, c0, ⟨A1, p1, c1, r1⟩, A2, p2, c2, r2⟩ := (HR.out.on hb hbs).at_ hlt
      obtain ⟨b', o', rfl, hB', d0, ⟨B1, q1, d1, s1⟩, B2, q2, d2, s2⟩ := (HR'.out.on hb hbs).at_ hlt
      have hm1 : bulkF ks[k] ≤ 2000000 := by have := bulkFL_mem (List.getElem_mem hlt); have := HKS.out; omega
      have hdr := (Below.refl wr.heap.size wr).drew
      have CK := eqFn_any _ _ _ wr.drew ⟨A1, p1, A2, p2, rfl, r1.on hdr hdr.size, r2.on hdr hdr.size⟩ ⟨B1, q1, B2, q2, rfl, s1.on hdr hdr.size, s2.on hdr hdr.size⟩ hm1
      clear hm1 r1 r2 s1 s2 hdr
      generalize ks[k] = x at *
      obtain ⟨s, a, bd⟩ := x
      dsimp only at c0 c1 c2 d0 d1 d2 CK
      have hBr : b < wr.heap.size := hB
      have hBr' : b' < wr.heap.size := hB'
      go_wp2_with fail
      replace CK := Lib.hid CK
      go_region_held3 (fun u => u.cell? ⟨b, o + k * 3, none⟩ = some (.string s) ∧ u.cell? ⟨b, o + k * 3 + 1, none⟩ = some (.slice A1 a.length p1) ∧ u.cell? ⟨b, o + k * 3 + 2, none⟩ = some (.slice A2 bd.length p2) ∧ u.cell? ⟨b', o' + k * 3, none⟩ = some (.string s) ∧ u.cell? ⟨b', o' + k * 3 + 1, none⟩ = some (.slice B1 a.length q1) ∧ u.cell? ⟨b', o' + k * 3 + 2, none⟩ = some (.slice B2 bd.length q2)) (go_keep)
        (first | (go_at_call 88; (with_reducible refine Calls.mono CK.out ?_); rintro e w' ⟨rfl, hb1⟩; have g0 := (hb1.cell (p := ⟨b, o + k * 3, none⟩) hBr).trans c0; have g1 := (hb1.cell (p := ⟨b, o + k * 3 + 1, none⟩) hBr).trans c1; have g2 := (hb1.cell (p := ⟨b, o + k * 3 + 2, none⟩) hBr).trans c2; have q0 := (hb1.cell (p := ⟨b', o' + k * 3, none⟩) hBr').trans d0; have q1 := (hb1.cell (p := ⟨b', o' + k * 3 + 1, none⟩) hBr').trans d1; have q2 := (hb1.cell (p := ⟨b', o' + k * 3 + 2, none⟩) hBr').trans d2))
      all_goals
        have hb2 := hb.drew.trans (hb1.mono hbs)
        clear hb hb1
        go_wp2_with fail
        go_roundw
        case rel => exact ⟨k + 1, by omega, by go_num, hb2⟩
        case measure => simp only [intOf]; omega
    · obtain rfl : k = ks.length := by omega
      go_wp2_with fail
      go_ret
      exact ⟨rfl, hb⟩
set_option maxHeartbeats 1000000 in
theorem eqProgram_self (p : List Fu) (v v' : Value) (w : World) (hV : PrV w (Lt w.heap.size) p v) (hV' : PrV w (Lt w.heap.size) p v') (hbk : bulkFL p ≤ 1048576) :
    Calls Tryz.prog 20 #[v, v'] w (BoolB true w) := by
  obtain ⟨A1, p1, rfl, r1⟩ := hV
  obtain ⟨B1, q1, rfl, s1⟩ := hV'
  have hb := two_boxes w (.cells #[.slice A1 p.length p1] 43) (.cells #[.slice B1 p.length q1] 43)
  have CS := Lib.hid (eqFnS_any p A1 p1 B1 q1 _ (r1.on hb hb.size) (s1.on hb hb.size) (by omega))
  have hbs := hb.size
  clear r1 s1 hbk
  go_enter Tryz.func20, Tryz.ntmps20
  go_wp2_with fail
  (with_reducible refine Calls.mono CS.out ?_)
  rintro ee w1 ⟨rfl, hb1⟩
  have hb2 := hb.trans (hb1.mono hbs)
  go_wp2_with fail
  go_ret
  exact ⟨rfl, hb2⟩
end Go.Proofs.YtljdbjfbcjigaaaGreatDoor

namespace Go.Proofs.YtljdbjfbcjigaaaGreatDoor
open Go.RowKit
set_option maxRecDepth 100000

set_option maxHeartbeats 4000000 in
theorem fnExactProgramText_walk (p : List Fu) (v : Value) (w : World) (hV : PrV w (Lt w.heap.size) p v) (hm : SmP p) (T : Tabs w) (N : NTabs w) (G : Sgn w) (F : Fms w) :
    Calls Tryz.prog 7 #[v] w fun ee w' => ee = .returned (.bool true) ∧ Below w.heap.size w w' := by
  have SZ0 := fun W (h : Below w.heap.size w W) => szProgram_any p hm v W (hV.on h h.size)
  have TO0 := fun (hl : bulkFL p ≤ 1048576) W (h : Below w.heap.size w W) => toProgram_any p hl v W (hV.on h h.size) 
  obtain ⟨A, c, rfl, _⟩ := hV
  have K0 := Lib.hid (BxL.new w [.slice A p.length c] 37)
  have hlt : w.heap.size < (w.alloc (.cells #[.slice A p.length c] 37)).heap.size := by rw [World.size_alloc]; omega
  have hb : Below w.heap.size w (w.alloc (.cells #[.slice A p.length c] 37)) := (Below.refl _ _).alloc (Nat.le_refl _) _
  have SZ := SZ0 _ hb
  clear SZ0
  by_cases hbig : 1048576 < bulkFL p
  · rw [szR_no hbig] at SZ
    replace SZ := Lib.hid SZ
    clear TO0 hm T N G F hbig
    go_enter Tryz.func7, Tryz.ntmps7
    go_wp2_with fail
    (with_reducible refine Calls.mono SZ.out ?_)
    rintro ee w1 ⟨rfl, hb1⟩
    have hb2 := hb.trans (hb1.mono (Nat.le_of_lt hlt))
    go_wp2_with fail
    go_ret
    exact ⟨rfl, hb2⟩
  rw [szR_yes hbig] at SZ
  have hl : bulkFL p ≤ 1048576 := by omega
  have hge : (0 : Int) ≤ 1048576 - bulkFL p := by omega
  have TO := fun W h => Lib.hid (TO0 hl W h)
  clear TO0
  have SP := fun v W h => Lib.hid (specProgramText_any p hl v W h)
  have IM := fun v W h h' => Lib.hid (implProgramText_any p hl v W h (T.below h') (N.below h') (G.below h') (F.below h'))
  have EQ := fun v v' W h h' => Lib.hid (eqProgram_self p v v' W h h' hl)
  have HL := Lib.hid hl
  generalize textP p = r at *
  generalize bulkFL p = bk at *
  unfold ToPRet at TO
  replace SZ := Lib.hid SZ
  clear hm T N G F hbig hl
  go_enter Tryz.func7, Tryz.ntmps7
  go_wp2_with fail
  (with_reducible refine Calls.mono SZ.out ?_)
  rintro ee w1 ⟨rfl, hb1⟩
  have K1 := Lib.hid (K0.out.below hb1 hlt)
  have k0 := K1.out 0 _ rfl
  have hl1 := Nat.lt_of_lt_of_le hlt hb1.size
  have hbs1 := hb.trans (hb1.mono (Nat.le_of_lt hlt))
  clear hb hb1 SZ K0
  go_wp2_with fail
  (with_reducible refine Calls.mono (TO _ hbs1).out ?_)
  rintro ee w2 ⟨⟨B2, rfl, hp2⟩, hb2⟩
  have K2 := Lib.hid (K1.out.below hb2 hl1)
  have hl2 := Nat.lt_of_lt_of_le hl1 hb2.size
  have hbs2 := hbs1.trans (hb2.mono hbs1.size)
  have SP1 := Lib.hid (SP _ w2 ⟨B2, p.length, rfl, hp2.lt (Nat.le_refl _)⟩).out
  clear k0 hp2 hb2 hbs1 K1 SP
  go_wp2_with fail
  (with_reducible refine Calls.mono SP1.out ?_)
  rintro ee w3 ⟨rfl, hb3⟩
  have K3 := Lib.hid (K2.out.below hb3 hl2)
  have k0 := K3.out 0 _ rfl
  have hl3 := Nat.lt_of_lt_of_le hl2 hb3.size
  have hbs3 := hbs2.trans (hb3.mono hbs2.size)
  clear hb3 hbs2 K2 SP1
  go_wp2_with fail
  (with_reducible refine Calls.mono (TO _ hbs3).out ?_)
  rintro ee w4 ⟨⟨B4, rfl, hp4⟩, hb4⟩
  have K4 := Lib.hid (K3.out.below hb4 hl3)
  have hl4 := Nat.lt_of_lt_of_le hl3 hb4.size
  have hbs4 := hbs3.trans (hb4.mono hbs3.size)
  have HP4 := Lib.hid (show PrV w4 (Between w4 w3.heap.size w4.heap.size) p _ from ⟨B4, p.length, rfl, hp4⟩)
  clear k0 hp4 hb4 hbs3 K3
  go_wp2_with fail
  have hb5 := (Below.refl w4.heap.size w4).alloc (Nat.le_refl _) (.cells #[.slice B4 p.length p.length] 43)
  have X5 := Lib.hid (BxL.new w4 [.slice B4 p.length p.length] 43)
  have hx5 : w4.heap.size < (w4.alloc (.cells #[.slice B4 p.length p.length] 43)).heap.size := by rw [World.size_alloc]; omega
  have e5 : w4.alloc (.cells [.slice B4 p.length p.length].toArray 43) = w4.alloc (.cells #[.slice B4 p.length p.length] 43) := rfl
  rw [e5] at X5
  clear e5
  generalize w4.alloc (.cells #[.slice B4 p.length p.length] 43) = w5 at *
  have K5 := Lib.hid (K4.out.below hb5 hl4)
  have hl5 := Nat.lt_of_lt_of_le hl4 hb5.size
  have hbs5 := hbs4.trans (hb5.mono hbs4.size)
  have IM1 := Lib.hid (IM _ w5 ((HP4.out.later hb5 (Nat.le_refl _) hb5.size).lt (Nat.le_refl _)) hbs5).out
  clear K4 IM
  (with_reducible refine Calls.mono IM1.out ?_)
  rintro ee w6 ⟨rfl, hb6⟩
  have K6 := Lib.hid (K5.out.below hb6 hl5)
  have X6 := Lib.hid (X5.out.below hb6 hx5)
  have hl6 := Nat.lt_of_lt_of_le hl5 hb6.size
  have hx6 := Nat.lt_of_lt_of_le hx5 hb6.size
  have hbs6 := hbs5.trans (hb6.mono hbs5.size)
  have hb46 := hb5.trans (hb6.mono hb5.size)
  clear hb6 hb5 hbs5 hbs4 K5 X5 IM1
  have q1 : (r.1.toList == r.1.toList) = true := by simp
  have q2 : (r.2 != r.2) = false := by simp
  go_wp2_with fail
  have k0 := K6.out 0 _ rfl
  have x0 := X6.out 0 _ rfl
  have TO6 := Lib.hid (TO w6.drew hbs6.drew).out
  have K6d := Lib.hid (show BxL w6.drew w.heap.size _ from K6.out)
  have X6d := Lib.hid (show BxL w6.drew w4.heap.size _ from X6.out)
  have R7 := Lib.hid (show ∀ w7, Below w6.drew.heap.size w6.drew w7 → PrV w7 (Lt w7.heap.size) p _ from fun w7 h => (HP4.out.later (hb46.drew.trans (h.mono hb46.size)) (Nat.le_refl _) (Nat.le_trans hb46.size h.size)).lt (Nat.le_refl _))
  clear TO
  go_region_held3 (fun u => u.cell? ⟨w.heap.size, 0, none⟩ = some (.slice A p.length c) ∧ u.cell? ⟨w4.heap.size, 0, none⟩ = some (.slice B4 p.length p.length)) (go_keep)
    (first
      | (go_at_call 17; (with_reducible refine Calls.mono TO6.out ?_); rintro ee w7 ⟨⟨B7, rfl, hp7⟩, hb7⟩; have hl7 := Nat.lt_of_lt_of_le hl6 hb7.size; have hx7 := Nat.lt_of_lt_of_le hx6 hb7.size; have m0 := K6d.out.below hb7 hl6 0 _ rfl; have y0 := X6d.out.below hb7 hx6 0 _ rfl; have HP7 := Lib.hid (show PrV w7 (Between w7 w6.drew.heap.size w7.heap.size) p _ from ⟨B7, p.length, rfl, hp7⟩); clear hp7)
      | (go_at_call 20; (with_reducible refine Calls.mono (EQ _ _ _ (R7.out _ hb7) (HP7.out.lt (Nat.le_refl _))).out ?_); rintro ee w8 ⟨rfl, hb8⟩; have n0 := (hb8.cell (p := ⟨w.heap.size, 0, none⟩) hl7).trans m0; have z0 := (hb8.cell (p := ⟨w4.heap.size, 0, none⟩) hx7).trans y0))
  all_goals
    have hbs8 := hbs6.drew.trans ((hb7.mono hbs6.size).trans (hb8.mono (Nat.le_trans hbs6.size hb7.size)))
    go_wp2_with fail
    go_ret
    exact ⟨rfl, hbs8⟩
end Go.Proofs.YtljdbjfbcjigaaaGreatDoor

namespace Go.Proofs.YtljdbjfbcjigaaaGreatDoor
open Go.ChangeShapes Go.WideShapes Go.ChangeAt Go.RowKit Go.WideMaps

theorem law_args {H : Type} {enc : TypeId × Value → H} {P : Program} (hl : laidOutB P = true) {W W' : World} (hb : Below W.heap.size W W') (sp' : Nat → Bool) :
    ∀ {ts : List TypeId} {vs : List Value} {ds : List (DataW H)} {ps : List MemPlace}, (ts.all fun t => P.readableRec t && decide (t < P.types.size)) = true →
      DataW.TrodAll enc P W 0 (fun _ => true) true ts vs ds ps → (∀ p ∈ ps, p.block < W.heap.size) → (∀ p ∈ ps, sp' p.block = true) → DataW.TrodAll enc P W' 0 sp' true ts vs ds ps := by
  intro ts
  induction ts with
  | nil =>
    intro vs ds ps _ h _ _
    match vs, ds, h with
    | [], [], h => exact h
  | cons t ts ih =>
    intro vs ds ps hr h hlt hs
    match vs, ds, h with
    | v :: vs, d :: ds, ⟨p, q, h1, h2, e⟩ =>
      subst e
      simp only [List.all_cons, Bool.and_eq_true, decide_eq_true_eq] at hr
      refine ⟨p, q, ?_, ih hr.2 h2 (fun x hx => hlt x (List.mem_append_right _ hx)) (fun x hx => hs x (List.mem_append_right _ hx)), rfl⟩
      exact WideElems.Trod_stays hl hr.1.1 hr.1.2 h1 (fun x hx => hb.same (hlt x (List.mem_append_left _ hx))) (fun x hx => hs x (List.mem_append_left _ hx))

/-- The types of the variables can be read. -/
def varsFit (P : Program) (ns : List String) : Bool := ns.all fun n => match (P.globalNamed n).bind (fun g => P.globals[g]?) with
  | some x => P.readableRec x.type && decide (x.type < P.types.size)
  | none => false

theorem law_vars {H : Type} {enc : TypeId × Value → H} {P : Program} (hl : laidOutB P = true) {W W' : World} (hb : Below W.heap.size W W') (sp' : Nat → Bool) :
    ∀ {ns : List String} {gs : List (DataW H)} {ps : List MemPlace}, varsFit P ns = true →
      DataW.TrodVars enc P W (fun _ => true) ns gs ps → (∀ p ∈ ps, p.block < W.heap.size) → (∀ p ∈ ps, sp' p.block = true) → DataW.TrodVars enc P W' sp' ns gs ps := by
  intro ns
  induction ns with
  | nil =>
    intro gs ps _ h _ _
    match gs, h with
    | [], h => exact h
  | cons n ns ih =>
    intro gs ps hr h hlt hs
    match gs, h with
    | d :: gs, ⟨g, t, cs, fuel, p, q, h1, h2, h3, h4, h5, e⟩ =>
      subst e
      unfold varsFit at hr
      simp only [List.all_cons, Bool.and_eq_true] at hr
      have hv : ∃ x, P.globals[g]? = some x ∧ x.type = t := by
        cases hx : P.globals[g]? with
        | none => rw [hx] at h2; cases h2
        | some x => rw [hx] at h2; exact ⟨x, rfl, Option.some.inj h2⟩
      obtain ⟨x, hx, rfl⟩ := hv
      have hr1 := hr.1
      rw [h1, Option.bind_some, hx] at hr1
      simp only [Bool.and_eq_true, decide_eq_true_eq] at hr1
      have hg : g < W.heap.size := by
        unfold World.var? at h3
        simp only [h1, Option.bind_some] at h3
        by_cases hlt' : g < W.heap.size
        · exact hlt'
        · rw [Array.getElem?_eq_none (by omega)] at h3; cases h3
      have hp : ∀ x ∈ p, x ∈ MemPlace.row ⟨g, 0, none⟩ cs.size ++ p ++ q := fun x hx => List.mem_append_left _ (List.mem_append_right _ hx)
      have hq : ∀ x ∈ q, x ∈ MemPlace.row ⟨g, 0, none⟩ cs.size ++ p ++ q := fun x hx => List.mem_append_right _ hx
      refine ⟨g, _, cs, fuel, p, q, h1, h2, var?_below hb h1 hg h3, ?_, ih hr.2 h5 (fun x hx => hlt x (hq x hx)) (fun x hx => hs x (hq x hx)), rfl⟩
      exact DataW.trod_stays (kids_book hl hr1.1) (book_sized hr1.1) (fun h => by cases h) ⟨hr1.2, book_self _⟩ h4 (fun x hx => hb.same (hlt x (hp x hx))) (fun x hx => hs x (hp x hx))

/-- The law's last step. -/
theorem law_post {H : Type} {enc : TypeId × Value → H} {P : Program} {f : Func} {s : ChangeSpec} {apart fresh handsOn again : Bool} {W W' : World} {args : Array Value} {ds gs : List (DataW H)} {before : List MemPlace} {tb : TypeId}
    (hl : laidOutB P = true) (hr : (f.params.toList.all fun t => P.readableRec t && decide (t < P.types.size)) = true) (hv : varsFit P s.vars = true)
    (hres : f.resultTypes = #[tb]) (htb : P.underlying tb = some .bool) (hfn : s.fn H (ds ++ gs) = { results := [.lit (.bool true)], args := ds, vars := gs })
    (hW : DataW.Whole enc P f.params.toList s.vars apart W args.toList ds gs before) (hb : Below W.heap.size W W') :
    s.post enc P f apart fresh handsOn again W args (.bool true) W' := by
  have hWhole := hW
  obtain ⟨pa, pv, hA, hV, rfl, hz, hn⟩ := hW
  have hlt : ∀ p ∈ pa ++ pv, p.block < W.heap.size := fun p hp => hWhole.lt p hp
  have ha : ∀ p ∈ pa, p.block < W.heap.size := fun p hp => hlt p (List.mem_append_left _ hp)
  have hvv : ∀ p ∈ pv, p.block < W.heap.size := fun p hp => hlt p (List.mem_append_right _ hp)
  have R : ∀ (b : Nat) (sp : Nat → Bool) (hd : Bool), DataW.TrodAll enc P W' b sp hd f.resultTypes.toList ((Value.bool true).resultList f.resultTypes.size) (s.fn H (ds ++ gs)).results [] := by
    intro b sp hd
    rw [hres, hfn]
    exact trodAll_mk1 (shut_bool htb _)
  have hok : ∀ (j : Nat) (t : TypeId) (r : Value), f.resultTypes[j]? = some t → ((Value.bool true).resultList f.resultTypes.size)[j]? = some r → Value.okWide P W' .any 0 t r := ok_one hres rfl (okWide_bool_mk htb _)
  refine ⟨ds, gs, pa ++ pv, [], pa, pv, hWhole, R _ _ _, ?_, ?_, World.keptBut_mono (fun p hp => ⟨hp, ?_⟩) (hb.frame (· ∈ pa ++ pv)), fun _ => ?_⟩
  · rw [hfn]; exact law_args hl hb _ hr hA ha (fun p hp => by simpa using ha p hp)
  · rw [hfn]; exact law_vars hl hb _ hv hV hvv (fun p hp => by simpa using hvv p hp)
  · rcases List.mem_append.1 hp with h | h
    · exact Or.inr (Or.inl h)
    · exact Or.inr (Or.inr h)
  · have A' := law_args (enc := enc) hl hb (fun _ => true) hr hA ha (fun _ _ => rfl)
    have V' := law_vars (enc := enc) hl hb (fun _ => true) hv hV hvv (fun _ _ => rfl)
    have R' := R 0 (fun _ => true) true
    rw [hfn] at R'
    refine ⟨hok, _, _, ([] ++ pa) ++ pv, ⟨[] ++ pa, pv, trodAll_append A' R', V', rfl, ?_, ?_⟩, ?_⟩
    · intro b off hp
      have hin : MemPlace.cell b off ∈ pa ++ pv := by simpa using hp
      rw [hb.frozen (hlt _ hin)]
      exact hz b off hin
    · intro ha
      have := hn ha
      simpa using this
    · intro p hp _
      simpa using hp

/-- What a listed variable reads as. -/
theorem laid_get {P : Program} {W : World} : ∀ {l : List (String × DataW Unit)} {ps : List MemPlace}, DataW.LaidVars P W l ps → ∀ {n : String} {d : DataW Unit}, (n, d) ∈ l →
    ∃ g t cs fuel p, P.globalNamed n = some g ∧ (P.globals[g]?).map (·.type) = some t ∧ W.var? P n = some cs ∧ DataW.trod (fun _ => ()) P W 0 (fun _ => true) false fuel t cs.toList = some (d, p)
  | [], _, _, _, _, h => by cases h
  | (_, _) :: _, _, ⟨g, t, cs, fuel, p, q, h1, h2, h3, h4, h5, _⟩, n, d, h => by
    rcases List.mem_cons.1 h with e | h
    · cases e
      exact ⟨g, t, cs, fuel, p, h1, h2, h3, h4⟩
    · exact laid_get h5 h

/-- A table of strings as a row lists it. -/
def strData {H : Type} (l : List (List UInt8)) : DataW H := .agg (l.map fun z => .lit (.string z))

theorem cells_of_strs {H : Type} {enc : TypeId × Value → H} {P : Program} {w : World} {base : Nat} {sp : Nat → Bool} {held : Bool} {fuel : Nat} {t e : TypeId} {n : Nat} {cs : List Value} {zs : List (List UInt8)} {p : List MemPlace}
    (ht : P.underlying t = some (.array n e)) (he : P.underlying e = some .string) (hce : P.cellsOf e = 1) (hct : P.cellsOf t = n)
    (h : DataW.trod enc P w base sp held fuel t cs = some (strData zs, p)) : cs = zs.map fun z => Value.string ⟨z.toArray⟩ := by
  obtain ⟨xs, m, rfl, hx, hlen, hxl, hel⟩ := DataW.trod_array ht h
  have hxs : xs.map (·.1) = zs.map fun z => (DataW.lit (.string z) : DataW H) := by
    have := congrArg Prod.fst hx
    simpa [strData] using this.symm
  have hzl : zs.length = n := by
    have := congrArg List.length hxs
    simp at this
    omega
  apply List.ext_getElem?
  intro i
  by_cases hi : i < n
  · have hf := hel i hi
    rw [hce, Nat.mul_one] at hf
    obtain ⟨b, hb⟩ : ∃ b, xs[i]? = some b := ⟨xs[i], List.getElem?_eq_getElem (by omega)⟩
    rw [hb] at hf
    obtain ⟨z, hc, rfl, _⟩ := DataW.trod_string he hf
    have h1 : cs[i]? = some (.string z) := by
      have := congrArg (·[0]?) hc
      simpa [List.getElem?_take, List.getElem?_drop] using this
    have h2 : (xs.map (·.1))[i]? = some (DataW.lit (.string z.data.toList) : DataW H) := by simp [hb]
    rw [hxs] at h2
    simp only [List.getElem?_map, Option.map_eq_some_iff, DataW.lit.injEq, Lit.string.injEq] at h2
    obtain ⟨z', hz', rfl⟩ := h2
    simp [h1, hz']
  · rw [List.getElem?_eq_none (by omega), List.getElem?_eq_none (by simp; omega)]
end Go.Proofs.YtljdbjfbcjigaaaGreatDoor
