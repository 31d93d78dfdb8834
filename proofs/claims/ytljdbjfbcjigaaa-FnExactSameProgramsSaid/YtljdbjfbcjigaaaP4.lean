/-
  What the laws' own helpers do with functions and programs: two that are one are told to be one.
-/
import Derived.Test.YtljdbjfbcjigaaaP2
import Derived.Test.YtljdbjfbcjigaaaT3
import Derived.Test.YtljdbjfbcjigaaaKW
namespace Go.Proofs.Ytljdbjfbcjigaaa
open Go.RowKit
set_option maxRecDepth 100000

theorem StrS.strs {w : World} {B : Nat} {ss : List ByteArray} {A : Option Addr} (h : StrS w (Lt B) ss A) : Strs w B A ss := by
  intro hne
  rcases h with h | ⟨b, o, e, hb, hc⟩
  · exact absurd h hne
  · exact ⟨b, o, e, hb, hc⟩
theorem boxes33 (w : World) (a0 a1 a2 b0 b1 b2 : Value) (t : TypeId) :
    ((w.alloc (.cells #[a0, a1, a2] t)).alloc (.cells #[b0, b1, b2] t)).cell? ⟨w.heap.size, 2, none⟩ = some a2 ∧
    ((w.alloc (.cells #[a0, a1, a2] t)).alloc (.cells #[b0, b1, b2] t)).cell? ⟨w.heap.size + 1, 2, none⟩ = some b2 ∧
    w.heap.size + 1 < ((w.alloc (.cells #[a0, a1, a2] t)).alloc (.cells #[b0, b1, b2] t)).heap.size ∧ Below w.heap.size w ((w.alloc (.cells #[a0, a1, a2] t)).alloc (.cells #[b0, b1, b2] t)) := by
  have s1 : (w.alloc (.cells #[a0, a1, a2] t)).heap.size = w.heap.size + 1 := World.size_alloc _ _
  have hal := (Below.refl _ (w.alloc (.cells #[a0, a1, a2] t))).alloc (Nat.le_refl _) (.cells #[b0, b1, b2] t)
  have A := fun k => alloc_cell w #[a0, a1, a2] t (0, 0) k
  have B := fun k => alloc_cell (w.alloc (.cells #[a0, a1, a2] t)) #[b0, b1, b2] t (0, 0) k
  rw [s1] at B
  have hlt : w.heap.size < (w.alloc (.cells #[a0, a1, a2] t)).heap.size := by omega
  exact ⟨(hal.cell (p := ⟨w.heap.size, 2, none⟩) hlt).trans (A 2), B 2, by rw [World.size_alloc, s1]; omega, two_boxes w _ _⟩
set_option maxHeartbeats 2000000 in
theorem eqFn_any (f : Fu) (v v' : Value) (w : World) (hV : FuV w (Lt w.heap.size) f v) (hV' : FuV w (Lt w.heap.size) f v') (hbk : bulkF f ≤ 2000000) :
    Calls Try.prog 23 #[v, v'] w (BoolB true w) := by
  obtain ⟨A1, p1, A2, p2, rfl, r1, r2⟩ := hV
  obtain ⟨B1, q1, B2, q2, rfl, s1, s2⟩ := hV'
  unfold bulkF at hbk
  obtain ⟨s, a, bd⟩ := f
  dsimp only at *
  have hla := length_le_bulkS a
  obtain ⟨c2, d2, hlt, hb⟩ := boxes33 w (.string s) (.slice A1 a.length p1) (.slice A2 bd.length p2) (.string s) (.slice B1 a.length q1) (.slice B2 bd.length q2) 36
  have CA0 := eqStringS_any A1 a p1 B1 a q1 _ (r1.on hb hb.size).strs (s1.on hb hb.size).strs (by omega) (by omega)
  rw [show decide (a = a) = true by simp] at CA0
  have CA := Lib.hid CA0
  have CB := fun W hh => Lib.hid (eqStmtS_any bd A2 p2 B2 q2 W (r2.on (w' := W) (B' := W.heap.size) hh hh.size) (s2.on (w' := W) (B' := W.heap.size) hh hh.size) (by omega))
  clear r1 r2 s1 s2 hbk CA0 hla
  have e2 : (s.toList == s.toList) = true := by simp
  have hbs := hb.size
  have hlt0 : w.heap.size < ((w.alloc (.cells #[.string s, .slice A1 a.length p1, .slice A2 bd.length p2] 36)).alloc (.cells #[.string s, .slice B1 a.length q1, .slice B2 bd.length q2] 36)).heap.size := Nat.lt_of_succ_lt hlt
  go_enter Try.func23, Try.ntmps23
  go_wp2_with fail
  (with_reducible refine Calls.mono CA.out ?_)
  rintro ee w1 ⟨rfl, hb1⟩
  have hb2 := hb.trans (hb1.mono hbs)
  replace c2 := (hb1.cell (p := ⟨w.heap.size, 2, none⟩) hlt0).trans c2
  replace d2 := (hb1.cell (p := ⟨w.heap.size + 1, 2, none⟩) hlt).trans d2
  clear hb hb1 hbs CA e2
  go_wp2_with fail
  (with_reducible refine Calls.mono (CB _ hb2).out ?_)
  rintro ee w2 ⟨rfl, hb3⟩
  have hb4 := hb2.trans (hb3.mono hb2.size)
  go_wp2_with fail
  go_ret
  exact ⟨rfl, hb4⟩
set_option maxHeartbeats 2000000 in
theorem eqFnS_any (ks : List Fu) (A : Option Addr) (cap : Nat) (A' : Option Addr) (cap' : Nat) (w : World) (hR : FuS w (Lt w.heap.size) ks A) (hR' : FuS w (Lt w.heap.size) ks A') (hks : bulkFL ks ≤ 2000000) :
    Calls Try.prog 15 #[.slice A ks.length cap, .slice A' ks.length cap'] w (BoolB true w) := by
  have hn : ks.length ≤ 2000000 := by have := length_le_bulkFL ks; omega
  have HKS := Lib.hid hks
  clear hks
  have HR := Lib.hid hR
  have HR' := Lib.hid hR'
  clear hR hR'
  have e1 : ((ks.length : Int) != (ks.length : Int)) = false := by simp
  go_enter Try.func15, Try.ntmps15
  go_wp2_with fail
  clear e1
  go_loopw [5] (fun i wr => ∃ (k : Nat), k ≤ ks.length ∧ i = .int .i64 k ∧ Below w.heap.size w wr) (fun i _ => ks.length - (intOf i).toNat)
  case atStart => exact ⟨0, Nat.zero_le _, rfl, Below.refl _ _⟩
  case round =>
    obtain ⟨k, hk, rfl, hb⟩ := hrel
    by_cases hlt : k < ks.length
    · have hbs := hb.size
      obtain ⟨b, o, rfl, hB, c0, ⟨A1, p1, c1, r1⟩, A2, p2, c2, r2⟩ := (HR.out.on hb hbs).at_ hlt
      obtain ⟨b', o', rfl, hB', d0, ⟨B1, q1, d1, s1⟩, B2, q2, d2, s2⟩ := (HR'.out.on hb hbs).at_ hlt
      have hm1 : bulkF ks[k] ≤ 2000000 := by have := bulkFL_mem (List.getElem_mem hlt); have := HKS.out; omega
      have hdr := (Below.refl wr.heap.size wr).drew
      have CK := eqFn_any _ _ _ wr.drew ⟨A1, p1, A2, p2, rfl, r1.on hdr hdr.size, r2.on hdr hdr.size⟩ ⟨B1, q1, B2, q2, rfl, s1.on hdr hdr.size, s2.on hdr hdr.size⟩ hm1
      clear hm1 r1 r2 s1 s2 hdr
      generalize ks[k] = x at *
      obtain ⟨s, a, bd⟩ := x
      dsimp only at c0 c1 c2 d0 d1 d2 CK
      have hBr : b < wr.heap.size := hB
      have hBr' : b' < wr.heap.size := hB'
      go_wp2_with fail
      replace CK := Lib.hid CK
      go_region_held3 (fun u => u.cell? ⟨b, o + k * 3, none⟩ = some (.string s) ∧ u.cell? ⟨b, o + k * 3 + 1, none⟩ = some (.slice A1 a.length p1) ∧ u.cell? ⟨b, o + k * 3 + 2, none⟩ = some (.slice A2 bd.length p2) ∧ u.cell? ⟨b', o' + k * 3, none⟩ = some (.string s) ∧ u.cell? ⟨b', o' + k * 3 + 1, none⟩ = some (.slice B1 a.length q1) ∧ u.cell? ⟨b', o' + k * 3 + 2, none⟩ = some (.slice B2 bd.length q2)) (go_keep)
        (first | (go_at_call 23; (with_reducible refine Calls.mono CK.out ?_); rintro e w' ⟨rfl, hb1⟩; have g0 := (hb1.cell (p := ⟨b, o + k * 3, none⟩) hBr).trans c0; have g1 := (hb1.cell (p := ⟨b, o + k * 3 + 1, none⟩) hBr).trans c1; have g2 := (hb1.cell (p := ⟨b, o + k * 3 + 2, none⟩) hBr).trans c2; have q0 := (hb1.cell (p := ⟨b', o' + k * 3, none⟩) hBr').trans d0; have q1 := (hb1.cell (p := ⟨b', o' + k * 3 + 1, none⟩) hBr').trans d1; have q2 := (hb1.cell (p := ⟨b', o' + k * 3 + 2, none⟩) hBr').trans d2))
      all_goals
        have hb2 := hb.drew.trans (hb1.mono hbs)
        clear hb hb1
        go_wp2_with fail
        go_roundw
        case rel => exact ⟨k + 1, by omega, by go_num, hb2⟩
        case measure => simp only [intOf]; omega
    · obtain rfl : k = ks.length := by omega
      go_wp2_with fail
      go_ret
      exact ⟨rfl, hb⟩
set_option maxHeartbeats 1000000 in
theorem eqProgram_self (p : List Fu) (v v' : Value) (w : World) (hV : PrV w (Lt w.heap.size) p v) (hV' : PrV w (Lt w.heap.size) p v') (hbk : bulkFL p ≤ 1048576) :
    Calls Try.prog 8 #[v, v'] w (BoolB true w) := by
  obtain ⟨A1, p1, rfl, r1⟩ := hV
  obtain ⟨B1, q1, rfl, s1⟩ := hV'
  have hb := two_boxes w (.cells #[.slice A1 p.length p1] 29) (.cells #[.slice B1 p.length q1] 29)
  have CS := Lib.hid (eqFnS_any p A1 p1 B1 q1 _ (r1.on hb hb.size) (s1.on hb hb.size) (by omega))
  have hbs := hb.size
  clear r1 s1 hbk
  go_enter Try.func8, Try.ntmps8
  go_wp2_with fail
  (with_reducible refine Calls.mono CS.out ?_)
  rintro ee w1 ⟨rfl, hb1⟩
  have hb2 := hb.trans (hb1.mono hbs)
  go_wp2_with fail
  go_ret
  exact ⟨rfl, hb2⟩
end Go.Proofs.Ytljdbjfbcjigaaa
