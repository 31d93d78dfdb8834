/-
  What the laws' own helpers do with units: two that are one are told to be one.
-/
import Derived.Test.YtomhomnibikceaaDoorNB
import Derived.Deep.RegionHeld3
namespace Go.Proofs.YtomhomnibikceaaDoor
open Go.RowKit
set_option maxRecDepth 100000

theorem NumS.ints {w : World} {B : Nat} {xs : List Int} {A : Option Addr} (h : NumS w (Lt B) xs A) : Ints w B A xs := by
  intro hne
  rcases h with h | ⟨b, o, e, hb, hc⟩
  · exact absurd h hne
  · exact ⟨b, o, e, hb, fun k hk => by have := hc k hk; rw [Nat.mul_one] at this; exact this⟩
theorem eqIntS_self (xs : List Int) (A : Option Addr) (c : Nat) (A' : Option Addr) (c' : Nat) (w : World) (h : NumS w (Lt w.heap.size) xs A) (h' : NumS w (Lt w.heap.size) xs A') (hn : xs.length ≤ 2000000) :
    Calls Tryd.prog 26 #[.slice A xs.length c, .slice A' xs.length c'] w (BoolB true w) := by
  have := eqIntS_any A xs c A' xs c' w h.ints h'.ints (by omega) (by omega)
  rw [show decide (xs = xs) = true by simp] at this
  exact this
set_option maxHeartbeats 2000000 in
theorem eqPhi_self (x : Ph) (v v' : Value) (w : World) (hV : PhV w (Lt w.heap.size) x v) (hV' : PhV w (Lt w.heap.size) x v') (hbk : bulkPh x ≤ 2000000) :
    Calls Tryd.prog 131 #[v, v'] w (BoolB true w) := by
  obtain ⟨A1, c1, rfl, r1⟩ := hV
  obtain ⟨B1, e1, rfl, s1⟩ := hV'
  unfold bulkPh at hbk
  obtain ⟨f0, f1⟩ := x
  dsimp only at *
  have K0 := Lib.hid ((BoxV.new w [.int .i64 f0, .slice A1 f1.length c1] 58).below ((Below.refl _ (w.alloc (.cells #[.int .i64 f0, .slice A1 f1.length c1] 58))).alloc (Nat.le_refl _) (.cells #[.int .i64 f0, .slice B1 f1.length e1] 58)) (by rw [World.size_alloc]; omega))
  have sz1 : (w.alloc (.cells #[.int .i64 f0, .slice A1 f1.length c1] 58)).heap.size = w.heap.size + 1 := World.size_alloc _ _
  have X0 := BoxV.new (w.alloc (.cells #[.int .i64 f0, .slice A1 f1.length c1] 58)) [.int .i64 f0, .slice B1 f1.length e1] 58
  rw [sz1] at X0
  replace X0 := Lib.hid X0
  have hx0 : w.heap.size + 1 < ((w.alloc (.cells #[.int .i64 f0, .slice A1 f1.length c1] 58)).alloc (.cells #[.int .i64 f0, .slice B1 f1.length e1] 58)).heap.size := by rw [World.size_alloc, sz1]; omega
  have hb := two_boxes w (.cells #[.int .i64 f0, .slice A1 f1.length c1] 58) (.cells #[.int .i64 f0, .slice B1 f1.length e1] 58)
  have C1 := fun W hh => Lib.hid (eqIntS_self f1 A1 c1 B1 e1 W (r1.on (w' := W) (B' := W.heap.size) hh hh.size) (s1.on (w' := W) (B' := W.heap.size) hh hh.size) (by omega))
  clear r1 s1 hbk sz1
  have q0 : (f0 != f0) = false := by simp
  have hbs := hb.size
  go_enter Tryd.func131, Tryd.ntmps131
  go_wp2_with fail
  (with_reducible refine Calls.mono (C1 _ hb).out ?_)
  rintro ee w1 ⟨rfl, hc1⟩
  have hb1 := hb.trans (hc1.mono hb.size)
  have K1 := Lib.hid (K0.out.below hc1 (Nat.lt_of_succ_lt hx0))
  have X1 := Lib.hid (X0.out.below hc1 hx0)
  have hx1 := Nat.lt_of_lt_of_le hx0 hc1.size
  clear hc1
  go_wp2_with fail
  go_ret
  exact ⟨rfl, hb1⟩
set_option maxHeartbeats 4000000 in
theorem eqPhiS_self (ks : List Ph) (A : Option Addr) (cap : Nat) (A' : Option Addr) (cap' : Nat) (w : World) (hR : PhS w (Lt w.heap.size) ks A) (hR' : PhS w (Lt w.heap.size) ks A') (hks : bulkR bulkPh ks ≤ 2000000) :
    Calls Tryd.prog 118 #[.slice A ks.length cap, .slice A' ks.length cap'] w (BoolB true w) := by
  have hn : ks.length ≤ 2000000 := by have := length_le_bulkR bulkPh ks; omega
  have HKS := Lib.hid hks
  clear hks
  have HR := Lib.hid hR
  have HR' := Lib.hid hR'
  clear hR hR'
  have e1 : ((ks.length : Int) != (ks.length : Int)) = false := by simp
  go_enter Tryd.func118, Tryd.ntmps118
  go_wp2_with fail
  clear e1
  go_loopw [5] (fun i wr => ∃ (k : Nat), k ≤ ks.length ∧ i = .int .i64 k ∧ Below w.heap.size w wr) (fun i _ => ks.length - (intOf i).toNat)
  case atStart => exact ⟨0, Nat.zero_le _, rfl, Below.refl _ _⟩
  case round =>
    obtain ⟨k, hk, rfl, hb⟩ := hrel
    by_cases hlt : k < ks.length
    · have hbs := hb.size
      obtain ⟨b, o, rfl, hB, d0, ⟨A1, c1, d1, r1⟩⟩ := (HR.out.on hb hbs).at_ hlt
      obtain ⟨b', o', rfl, hB', g0, ⟨B1, e1, g1, s1⟩⟩ := (HR'.out.on hb hbs).at_ hlt
      have hm1 : bulkPh ks[k] ≤ 2000000 := by have := bulkR_mem (f := bulkPh) (List.getElem_mem hlt); have := HKS.out; omega
      have hdr := (Below.refl wr.heap.size wr).drew
      have CK := eqPhi_self _ _ _ wr.drew ⟨A1, c1, rfl, r1.on hdr hdr.size⟩ ⟨B1, e1, rfl, s1.on hdr hdr.size⟩ hm1
      clear hm1 r1 s1 hdr
      generalize ks[k] = x at *
      obtain ⟨f0, f1⟩ := x
      dsimp only at d0 g0 d1 g1 CK
      have hBr : b < wr.heap.size := hB
      have hBr' : b' < wr.heap.size := hB'
      go_wp2_with fail
      replace CK := Lib.hid CK
      go_region_held3 (fun u => u.cell? ⟨b, o + k * 2, none⟩ = some (.int .i64 f0) ∧ u.cell? ⟨b, o + k * 2 + 1, none⟩ = some (.slice A1 f1.length c1) ∧ u.cell? ⟨b', o' + k * 2, none⟩ = some (.int .i64 f0) ∧ u.cell? ⟨b', o' + k * 2 + 1, none⟩ = some (.slice B1 f1.length e1)) (go_keep)
        (first | (go_at_call 131; (with_reducible refine Calls.mono CK.out ?_); rintro e w' ⟨rfl, hb1⟩; have y0 := (hb1.cell (p := ⟨b, o + k * 2, none⟩) hBr).trans d0; have y1 := (hb1.cell (p := ⟨b, o + k * 2 + 1, none⟩) hBr).trans d1; have z0 := (hb1.cell (p := ⟨b', o' + k * 2, none⟩) hBr').trans g0; have z1 := (hb1.cell (p := ⟨b', o' + k * 2 + 1, none⟩) hBr').trans g1))
      all_goals
        have hb2 := hb.drew.trans (hb1.mono hbs)
        clear hb hb1
        go_wp2_with fail
        go_roundw
        case rel => exact ⟨k + 1, by omega, by go_num, hb2⟩
        case measure => simp only [intOf]; omega
    · obtain rfl : k = ks.length := by omega
      go_wp2_with fail
      go_ret
      exact ⟨rfl, hb⟩
set_option maxHeartbeats 2000000 in
theorem eqIns_self (x : Ik) (v v' : Value) (w : World) (hV : IkV w (Lt w.heap.size) x v) (hV' : IkV w (Lt w.heap.size) x v') (hbk : bulkIk x ≤ 2000000) :
    Calls Tryd.prog 132 #[v, v'] w (BoolB true w) := by
  obtain ⟨A2, c2, rfl, r2⟩ := hV
  obtain ⟨B2, e2, rfl, s2⟩ := hV'
  unfold bulkIk at hbk
  obtain ⟨f0, f1, f2, f3⟩ := x
  dsimp only at *
  have K0 := Lib.hid ((BoxV.new w [.int .i64 f0, .int .i64 f1, .slice A2 f2.length c2, .int .i64 f3] 62).below ((Below.refl _ (w.alloc (.cells #[.int .i64 f0, .int .i64 f1, .slice A2 f2.length c2, .int .i64 f3] 62))).alloc (Nat.le_refl _) (.cells #[.int .i64 f0, .int .i64 f1, .slice B2 f2.length e2, .int .i64 f3] 62)) (by rw [World.size_alloc]; omega))
  have sz1 : (w.alloc (.cells #[.int .i64 f0, .int .i64 f1, .slice A2 f2.length c2, .int .i64 f3] 62)).heap.size = w.heap.size + 1 := World.size_alloc _ _
  have X0 := BoxV.new (w.alloc (.cells #[.int .i64 f0, .int .i64 f1, .slice A2 f2.length c2, .int .i64 f3] 62)) [.int .i64 f0, .int .i64 f1, .slice B2 f2.length e2, .int .i64 f3] 62
  rw [sz1] at X0
  replace X0 := Lib.hid X0
  have hx0 : w.heap.size + 1 < ((w.alloc (.cells #[.int .i64 f0, .int .i64 f1, .slice A2 f2.length c2, .int .i64 f3] 62)).alloc (.cells #[.int .i64 f0, .int .i64 f1, .slice B2 f2.length e2, .int .i64 f3] 62)).heap.size := by rw [World.size_alloc, sz1]; omega
  have hb := two_boxes w (.cells #[.int .i64 f0, .int .i64 f1, .slice A2 f2.length c2, .int .i64 f3] 62) (.cells #[.int .i64 f0, .int .i64 f1, .slice B2 f2.length e2, .int .i64 f3] 62)
  have C2 := fun W hh => Lib.hid (eqIntS_self f2 A2 c2 B2 e2 W (r2.on (w' := W) (B' := W.heap.size) hh hh.size) (s2.on (w' := W) (B' := W.heap.size) hh hh.size) (by omega))
  clear r2 s2 hbk sz1
  have q0 : (f0 != f0) = false := by simp
  have q1 : (f1 != f1) = false := by simp
  have q3 : (f3 != f3) = false := by simp
  have hbs := hb.size
  go_enter Tryd.func132, Tryd.ntmps132
  go_wp2_with fail
  (with_reducible refine Calls.mono (C2 _ hb).out ?_)
  rintro ee w1 ⟨rfl, hc1⟩
  have hb1 := hb.trans (hc1.mono hb.size)
  have K1 := Lib.hid (K0.out.below hc1 (Nat.lt_of_succ_lt hx0))
  have X1 := Lib.hid (X0.out.below hc1 hx0)
  have hx1 := Nat.lt_of_lt_of_le hx0 hc1.size
  have k3 := K1.out 3 _ rfl
  have x3 := X1.out 3 _ rfl
  clear hc1
  go_wp2_with fail
  go_ret
  exact ⟨rfl, hb1⟩
set_option maxHeartbeats 4000000 in
theorem eqInsS_self (ks : List Ik) (A : Option Addr) (cap : Nat) (A' : Option Addr) (cap' : Nat) (w : World) (hR : IkS w (Lt w.heap.size) ks A) (hR' : IkS w (Lt w.heap.size) ks A') (hks : bulkR bulkIk ks ≤ 2000000) :
    Calls Tryd.prog 119 #[.slice A ks.length cap, .slice A' ks.length cap'] w (BoolB true w) := by
  have hn : ks.length ≤ 2000000 := by have := length_le_bulkR bulkIk ks; omega
  have HKS := Lib.hid hks
  clear hks
  have HR := Lib.hid hR
  have HR' := Lib.hid hR'
  clear hR hR'
  have e1 : ((ks.length : Int) != (ks.length : Int)) = false := by simp
  go_enter Tryd.func119, Tryd.ntmps119
  go_wp2_with fail
  clear e1
  go_loopw [5] (fun i wr => ∃ (k : Nat), k ≤ ks.length ∧ i = .int .i64 k ∧ Below w.heap.size w wr) (fun i _ => ks.length - (intOf i).toNat)
  case atStart => exact ⟨0, Nat.zero_le _, rfl, Below.refl _ _⟩
  case round =>
    obtain ⟨k, hk, rfl, hb⟩ := hrel
    by_cases hlt : k < ks.length
    · have hbs := hb.size
      obtain ⟨b, o, rfl, hB, d0, d1, ⟨A2, c2, d2, r2⟩, d3⟩ := (HR.out.on hb hbs).at_ hlt
      obtain ⟨b', o', rfl, hB', g0, g1, ⟨B2, e2, g2, s2⟩, g3⟩ := (HR'.out.on hb hbs).at_ hlt
      have hm1 : bulkIk ks[k] ≤ 2000000 := by have := bulkR_mem (f := bulkIk) (List.getElem_mem hlt); have := HKS.out; omega
      have hdr := (Below.refl wr.heap.size wr).drew
      have CK := eqIns_self _ _ _ wr.drew ⟨A2, c2, rfl, r2.on hdr hdr.size⟩ ⟨B2, e2, rfl, s2.on hdr hdr.size⟩ hm1
      clear hm1 r2 s2 hdr
      generalize ks[k] = x at *
      obtain ⟨f0, f1, f2, f3⟩ := x
      dsimp only at d0 g0 d1 g1 d2 g2 d3 g3 CK
      have hBr : b < wr.heap.size := hB
      have hBr' : b' < wr.heap.size := hB'
      go_wp2_with fail
      replace CK := Lib.hid CK
      go_region_held3 (fun u => u.cell? ⟨b, o + k * 4, none⟩ = some (.int .i64 f0) ∧ u.cell? ⟨b, o + k * 4 + 1, none⟩ = some (.int .i64 f1) ∧ u.cell? ⟨b, o + k * 4 + 2, none⟩ = some (.slice A2 f2.length c2) ∧ u.cell? ⟨b, o + k * 4 + 3, none⟩ = some (.int .i64 f3) ∧ u.cell? ⟨b', o' + k * 4, none⟩ = some (.int .i64 f0) ∧ u.cell? ⟨b', o' + k * 4 + 1, none⟩ = some (.int .i64 f1) ∧ u.cell? ⟨b', o' + k * 4 + 2, none⟩ = some (.slice B2 f2.length e2) ∧ u.cell? ⟨b', o' + k * 4 + 3, none⟩ = some (.int .i64 f3)) (go_keep)
        (first | (go_at_call 132; (with_reducible refine Calls.mono CK.out ?_); rintro e w' ⟨rfl, hb1⟩; have y0 := (hb1.cell (p := ⟨b, o + k * 4, none⟩) hBr).trans d0; have y1 := (hb1.cell (p := ⟨b, o + k * 4 + 1, none⟩) hBr).trans d1; have y2 := (hb1.cell (p := ⟨b, o + k * 4 + 2, none⟩) hBr).trans d2; have y3 := (hb1.cell (p := ⟨b, o + k * 4 + 3, none⟩) hBr).trans d3; have z0 := (hb1.cell (p := ⟨b', o' + k * 4, none⟩) hBr').trans g0; have z1 := (hb1.cell (p := ⟨b', o' + k * 4 + 1, none⟩) hBr').trans g1; have z2 := (hb1.cell (p := ⟨b', o' + k * 4 + 2, none⟩) hBr').trans g2; have z3 := (hb1.cell (p := ⟨b', o' + k * 4 + 3, none⟩) hBr').trans g3))
      all_goals
        have hb2 := hb.drew.trans (hb1.mono hbs)
        clear hb hb1
        go_wp2_with fail
        go_roundw
        case rel => exact ⟨k + 1, by omega, by go_num, hb2⟩
        case measure => simp only [intOf]; omega
    · obtain rfl : k = ks.length := by omega
      go_wp2_with fail
      go_ret
      exact ⟨rfl, hb⟩
set_option maxHeartbeats 2000000 in
theorem eqBlock_self (x : Bk) (v v' : Value) (w : World) (hV : BkV w (Lt w.heap.size) x v) (hV' : BkV w (Lt w.heap.size) x v') (hbk : bulkBk x ≤ 2000000) :
    Calls Tryd.prog 100 #[v, v'] w (BoolB true w) := by
  obtain ⟨A0, c0, A1, c1, A4, c4, rfl, r0, r1, r4⟩ := hV
  obtain ⟨B0, e0, B1, e1, B4, e4, rfl, s0, s1, s4⟩ := hV'
  unfold bulkBk at hbk
  obtain ⟨f0, f1, f2, f3, f4⟩ := x
  dsimp only at *
  have K0 := Lib.hid ((BoxV.new w [.slice A0 f0.length c0, .slice A1 f1.length c1, .int .i64 f2, .int .i64 f3, .slice A4 f4.length c4] 56).below ((Below.refl _ (w.alloc (.cells #[.slice A0 f0.length c0, .slice A1 f1.length c1, .int .i64 f2, .int .i64 f3, .slice A4 f4.length c4] 56))).alloc (Nat.le_refl _) (.cells #[.slice B0 f0.length e0, .slice B1 f1.length e1, .int .i64 f2, .int .i64 f3, .slice B4 f4.length e4] 56)) (by rw [World.size_alloc]; omega))
  have sz1 : (w.alloc (.cells #[.slice A0 f0.length c0, .slice A1 f1.length c1, .int .i64 f2, .int .i64 f3, .slice A4 f4.length c4] 56)).heap.size = w.heap.size + 1 := World.size_alloc _ _
  have X0 := BoxV.new (w.alloc (.cells #[.slice A0 f0.length c0, .slice A1 f1.length c1, .int .i64 f2, .int .i64 f3, .slice A4 f4.length c4] 56)) [.slice B0 f0.length e0, .slice B1 f1.length e1, .int .i64 f2, .int .i64 f3, .slice B4 f4.length e4] 56
  rw [sz1] at X0
  replace X0 := Lib.hid X0
  have hx0 : w.heap.size + 1 < ((w.alloc (.cells #[.slice A0 f0.length c0, .slice A1 f1.length c1, .int .i64 f2, .int .i64 f3, .slice A4 f4.length c4] 56)).alloc (.cells #[.slice B0 f0.length e0, .slice B1 f1.length e1, .int .i64 f2, .int .i64 f3, .slice B4 f4.length e4] 56)).heap.size := by rw [World.size_alloc, sz1]; omega
  have hb := two_boxes w (.cells #[.slice A0 f0.length c0, .slice A1 f1.length c1, .int .i64 f2, .int .i64 f3, .slice A4 f4.length c4] 56) (.cells #[.slice B0 f0.length e0, .slice B1 f1.length e1, .int .i64 f2, .int .i64 f3, .slice B4 f4.length e4] 56)
  have C0 := fun W hh => Lib.hid (eqPhiS_self f0 A0 c0 B0 e0 W (r0.on (w' := W) (B' := W.heap.size) hh hh.size) (s0.on (w' := W) (B' := W.heap.size) hh hh.size) (by omega))
  have C1 := fun W hh => Lib.hid (eqInsS_self f1 A1 c1 B1 e1 W (r1.on (w' := W) (B' := W.heap.size) hh hh.size) (s1.on (w' := W) (B' := W.heap.size) hh hh.size) (by omega))
  have C4 := fun W hh => Lib.hid (eqIntS_self f4 A4 c4 B4 e4 W (r4.on (w' := W) (B' := W.heap.size) hh hh.size) (s4.on (w' := W) (B' := W.heap.size) hh hh.size) (by omega))
  clear r0 s0 r1 s1 r4 s4 hbk sz1
  have q2 : (f2 != f2) = false := by simp
  have q3 : (f3 != f3) = false := by simp
  have hbs := hb.size
  go_enter Tryd.func100, Tryd.ntmps100
  go_wp2_with fail
  (with_reducible refine Calls.mono (C0 _ hb).out ?_)
  rintro ee w1 ⟨rfl, hc1⟩
  have hb1 := hb.trans (hc1.mono hb.size)
  have K1 := Lib.hid (K0.out.below hc1 (Nat.lt_of_succ_lt hx0))
  have X1 := Lib.hid (X0.out.below hc1 hx0)
  have hx1 := Nat.lt_of_lt_of_le hx0 hc1.size
  have k1 := K1.out 1 _ rfl
  have x1 := X1.out 1 _ rfl
  clear hc1
  go_wp2_with fail
  (with_reducible refine Calls.mono (C1 _ hb1).out ?_)
  rintro ee w2 ⟨rfl, hc2⟩
  have hb2 := hb1.trans (hc2.mono hb1.size)
  have K2 := Lib.hid (K1.out.below hc2 (Nat.lt_of_succ_lt hx1))
  have X2 := Lib.hid (X1.out.below hc2 hx1)
  have hx2 := Nat.lt_of_lt_of_le hx1 hc2.size
  have k2 := K2.out 2 _ rfl
  have x2 := X2.out 2 _ rfl
  have k3 := K2.out 3 _ rfl
  have x3 := X2.out 3 _ rfl
  have k4 := K2.out 4 _ rfl
  have x4 := X2.out 4 _ rfl
  clear hc2
  go_wp2_with fail
  (with_reducible refine Calls.mono (C4 _ hb2).out ?_)
  rintro ee w3 ⟨rfl, hc3⟩
  have hb3 := hb2.trans (hc3.mono hb2.size)
  have K3 := Lib.hid (K2.out.below hc3 (Nat.lt_of_succ_lt hx2))
  have X3 := Lib.hid (X2.out.below hc3 hx2)
  have hx3 := Nat.lt_of_lt_of_le hx2 hc3.size
  clear hc3
  go_wp2_with fail
  go_ret
  exact ⟨rfl, hb3⟩
set_option maxHeartbeats 4000000 in
theorem eqBlockS_self (ks : List Bk) (A : Option Addr) (cap : Nat) (A' : Option Addr) (cap' : Nat) (w : World) (hR : BkS w (Lt w.heap.size) ks A) (hR' : BkS w (Lt w.heap.size) ks A') (hks : bulkR bulkBk ks ≤ 2000000) :
    Calls Tryd.prog 75 #[.slice A ks.length cap, .slice A' ks.length cap'] w (BoolB true w) := by
  have hn : ks.length ≤ 2000000 := by have := length_le_bulkR bulkBk ks; omega
  have HKS := Lib.hid hks
  clear hks
  have HR := Lib.hid hR
  have HR' := Lib.hid hR'
  clear hR hR'
  have e1 : ((ks.length : Int) != (ks.length : Int)) = false := by simp
  go_enter Tryd.func75, Tryd.ntmps75
  go_wp2_with fail
  clear e1
  go_loopw [5] (fun i wr => ∃ (k : Nat), k ≤ ks.length ∧ i = .int .i64 k ∧ Below w.heap.size w wr) (fun i _ => ks.length - (intOf i).toNat)
  case atStart => exact ⟨0, Nat.zero_le _, rfl, Below.refl _ _⟩
  case round =>
    obtain ⟨k, hk, rfl, hb⟩ := hrel
    by_cases hlt : k < ks.length
    · have hbs := hb.size
      obtain ⟨b, o, rfl, hB, ⟨A0, c0, d0, r0⟩, ⟨A1, c1, d1, r1⟩, d2, d3, ⟨A4, c4, d4, r4⟩⟩ := (HR.out.on hb hbs).at_ hlt
      obtain ⟨b', o', rfl, hB', ⟨B0, e0, g0, s0⟩, ⟨B1, e1, g1, s1⟩, g2, g3, ⟨B4, e4, g4, s4⟩⟩ := (HR'.out.on hb hbs).at_ hlt
      have hm1 : bulkBk ks[k] ≤ 2000000 := by have := bulkR_mem (f := bulkBk) (List.getElem_mem hlt); have := HKS.out; omega
      have hdr := (Below.refl wr.heap.size wr).drew
      have CK := eqBlock_self _ _ _ wr.drew ⟨A0, c0, A1, c1, A4, c4, rfl, r0.on hdr hdr.size, r1.on hdr hdr.size, r4.on hdr hdr.size⟩ ⟨B0, e0, B1, e1, B4, e4, rfl, s0.on hdr hdr.size, s1.on hdr hdr.size, s4.on hdr hdr.size⟩ hm1
      clear hm1 r0 s0 r1 s1 r4 s4 hdr
      generalize ks[k] = x at *
      obtain ⟨f0, f1, f2, f3, f4⟩ := x
      dsimp only at d0 g0 d1 g1 d2 g2 d3 g3 d4 g4 CK
      have hBr : b < wr.heap.size := hB
      have hBr' : b' < wr.heap.size := hB'
      go_wp2_with fail
      replace CK := Lib.hid CK
      go_region_held3 (fun u => u.cell? ⟨b, o + k * 5, none⟩ = some (.slice A0 f0.length c0) ∧ u.cell? ⟨b, o + k * 5 + 1, none⟩ = some (.slice A1 f1.length c1) ∧ u.cell? ⟨b, o + k * 5 + 2, none⟩ = some (.int .i64 f2) ∧ u.cell? ⟨b, o + k * 5 + 3, none⟩ = some (.int .i64 f3) ∧ u.cell? ⟨b, o + k * 5 + 4, none⟩ = some (.slice A4 f4.length c4) ∧ u.cell? ⟨b', o' + k * 5, none⟩ = some (.slice B0 f0.length e0) ∧ u.cell? ⟨b', o' + k * 5 + 1, none⟩ = some (.slice B1 f1.length e1) ∧ u.cell? ⟨b', o' + k * 5 + 2, none⟩ = some (.int .i64 f2) ∧ u.cell? ⟨b', o' + k * 5 + 3, none⟩ = some (.int .i64 f3) ∧ u.cell? ⟨b', o' + k * 5 + 4, none⟩ = some (.slice B4 f4.length e4)) (go_keep)
        (first | (go_at_call 100; (with_reducible refine Calls.mono CK.out ?_); rintro e w' ⟨rfl, hb1⟩; have y0 := (hb1.cell (p := ⟨b, o + k * 5, none⟩) hBr).trans d0; have y1 := (hb1.cell (p := ⟨b, o + k * 5 + 1, none⟩) hBr).trans d1; have y2 := (hb1.cell (p := ⟨b, o + k * 5 + 2, none⟩) hBr).trans d2; have y3 := (hb1.cell (p := ⟨b, o + k * 5 + 3, none⟩) hBr).trans d3; have y4 := (hb1.cell (p := ⟨b, o + k * 5 + 4, none⟩) hBr).trans d4; have z0 := (hb1.cell (p := ⟨b', o' + k * 5, none⟩) hBr').trans g0; have z1 := (hb1.cell (p := ⟨b', o' + k * 5 + 1, none⟩) hBr').trans g1; have z2 := (hb1.cell (p := ⟨b', o' + k * 5 + 2, none⟩) hBr').trans g2; have z3 := (hb1.cell (p := ⟨b', o' + k * 5 + 3, none⟩) hBr').trans g3; have z4 := (hb1.cell (p := ⟨b', o' + k * 5 + 4, none⟩) hBr').trans g4))
      all_goals
        have hb2 := hb.drew.trans (hb1.mono hbs)
        clear hb hb1
        go_wp2_with fail
        go_roundw
        case rel => exact ⟨k + 1, by omega, by go_num, hb2⟩
        case measure => simp only [intOf]; omega
    · obtain rfl : k = ks.length := by omega
      go_wp2_with fail
      go_ret
      exact ⟨rfl, hb⟩
set_option maxHeartbeats 2000000 in
theorem eqCode_self (x : Cd) (v v' : Value) (w : World) (hV : CdV w (Lt w.heap.size) x v) (hV' : CdV w (Lt w.heap.size) x v') (hbk : bulkCd x ≤ 2000000) :
    Calls Tryd.prog 49 #[v, v'] w (BoolB true w) := by
  obtain ⟨A2, c2, rfl, r2⟩ := hV
  obtain ⟨B2, e2, rfl, s2⟩ := hV'
  unfold bulkCd at hbk
  obtain ⟨f0, f1, f2⟩ := x
  dsimp only at *
  have K0 := Lib.hid ((BoxV.new w [.int .i64 f0, .int .i64 f1, .slice A2 f2.length c2] 44).below ((Below.refl _ (w.alloc (.cells #[.int .i64 f0, .int .i64 f1, .slice A2 f2.length c2] 44))).alloc (Nat.le_refl _) (.cells #[.int .i64 f0, .int .i64 f1, .slice B2 f2.length e2] 44)) (by rw [World.size_alloc]; omega))
  have sz1 : (w.alloc (.cells #[.int .i64 f0, .int .i64 f1, .slice A2 f2.length c2] 44)).heap.size = w.heap.size + 1 := World.size_alloc _ _
  have X0 := BoxV.new (w.alloc (.cells #[.int .i64 f0, .int .i64 f1, .slice A2 f2.length c2] 44)) [.int .i64 f0, .int .i64 f1, .slice B2 f2.length e2] 44
  rw [sz1] at X0
  replace X0 := Lib.hid X0
  have hx0 : w.heap.size + 1 < ((w.alloc (.cells #[.int .i64 f0, .int .i64 f1, .slice A2 f2.length c2] 44)).alloc (.cells #[.int .i64 f0, .int .i64 f1, .slice B2 f2.length e2] 44)).heap.size := by rw [World.size_alloc, sz1]; omega
  have hb := two_boxes w (.cells #[.int .i64 f0, .int .i64 f1, .slice A2 f2.length c2] 44) (.cells #[.int .i64 f0, .int .i64 f1, .slice B2 f2.length e2] 44)
  have C2 := fun W hh => Lib.hid (eqBlockS_self f2 A2 c2 B2 e2 W (r2.on (w' := W) (B' := W.heap.size) hh hh.size) (s2.on (w' := W) (B' := W.heap.size) hh hh.size) (by omega))
  clear r2 s2 hbk sz1
  have q0 : (f0 != f0) = false := by simp
  have q1 : (f1 != f1) = false := by simp
  have hbs := hb.size
  go_enter Tryd.func49, Tryd.ntmps49
  go_wp2_with fail
  (with_reducible refine Calls.mono (C2 _ hb).out ?_)
  rintro ee w1 ⟨rfl, hc1⟩
  have hb1 := hb.trans (hc1.mono hb.size)
  have K1 := Lib.hid (K0.out.below hc1 (Nat.lt_of_succ_lt hx0))
  have X1 := Lib.hid (X0.out.below hc1 hx0)
  have hx1 := Nat.lt_of_lt_of_le hx0 hc1.size
  clear hc1
  go_wp2_with fail
  go_ret
  exact ⟨rfl, hb1⟩
set_option maxHeartbeats 4000000 in
theorem eqCodeS_self (ks : List Cd) (A : Option Addr) (cap : Nat) (A' : Option Addr) (cap' : Nat) (w : World) (hR : CdS w (Lt w.heap.size) ks A) (hR' : CdS w (Lt w.heap.size) ks A') (hks : bulkR bulkCd ks ≤ 2000000) :
    Calls Tryd.prog 27 #[.slice A ks.length cap, .slice A' ks.length cap'] w (BoolB true w) := by
  have hn : ks.length ≤ 2000000 := by have := length_le_bulkR bulkCd ks; omega
  have HKS := Lib.hid hks
  clear hks
  have HR := Lib.hid hR
  have HR' := Lib.hid hR'
  clear hR hR'
  have e1 : ((ks.length : Int) != (ks.length : Int)) = false := by simp
  go_enter Tryd.func27, Tryd.ntmps27
  go_wp2_with fail
  clear e1
  go_loopw [5] (fun i wr => ∃ (k : Nat), k ≤ ks.length ∧ i = .int .i64 k ∧ Below w.heap.size w wr) (fun i _ => ks.length - (intOf i).toNat)
  case atStart => exact ⟨0, Nat.zero_le _, rfl, Below.refl _ _⟩
  case round =>
    obtain ⟨k, hk, rfl, hb⟩ := hrel
    by_cases hlt : k < ks.length
    · have hbs := hb.size
      obtain ⟨b, o, rfl, hB, d0, d1, ⟨A2, c2, d2, r2⟩⟩ := (HR.out.on hb hbs).at_ hlt
      obtain ⟨b', o', rfl, hB', g0, g1, ⟨B2, e2, g2, s2⟩⟩ := (HR'.out.on hb hbs).at_ hlt
      have hm1 : bulkCd ks[k] ≤ 2000000 := by have := bulkR_mem (f := bulkCd) (List.getElem_mem hlt); have := HKS.out; omega
      have hdr := (Below.refl wr.heap.size wr).drew
      have CK := eqCode_self _ _ _ wr.drew ⟨A2, c2, rfl, r2.on hdr hdr.size⟩ ⟨B2, e2, rfl, s2.on hdr hdr.size⟩ hm1
      clear hm1 r2 s2 hdr
      generalize ks[k] = x at *
      obtain ⟨f0, f1, f2⟩ := x
      dsimp only at d0 g0 d1 g1 d2 g2 CK
      have hBr : b < wr.heap.size := hB
      have hBr' : b' < wr.heap.size := hB'
      go_wp2_with fail
      replace CK := Lib.hid CK
      go_region_held3 (fun u => u.cell? ⟨b, o + k * 3, none⟩ = some (.int .i64 f0) ∧ u.cell? ⟨b, o + k * 3 + 1, none⟩ = some (.int .i64 f1) ∧ u.cell? ⟨b, o + k * 3 + 2, none⟩ = some (.slice A2 f2.length c2) ∧ u.cell? ⟨b', o' + k * 3, none⟩ = some (.int .i64 f0) ∧ u.cell? ⟨b', o' + k * 3 + 1, none⟩ = some (.int .i64 f1) ∧ u.cell? ⟨b', o' + k * 3 + 2, none⟩ = some (.slice B2 f2.length e2)) (go_keep)
        (first | (go_at_call 49; (with_reducible refine Calls.mono CK.out ?_); rintro e w' ⟨rfl, hb1⟩; have y0 := (hb1.cell (p := ⟨b, o + k * 3, none⟩) hBr).trans d0; have y1 := (hb1.cell (p := ⟨b, o + k * 3 + 1, none⟩) hBr).trans d1; have y2 := (hb1.cell (p := ⟨b, o + k * 3 + 2, none⟩) hBr).trans d2; have z0 := (hb1.cell (p := ⟨b', o' + k * 3, none⟩) hBr').trans g0; have z1 := (hb1.cell (p := ⟨b', o' + k * 3 + 1, none⟩) hBr').trans g1; have z2 := (hb1.cell (p := ⟨b', o' + k * 3 + 2, none⟩) hBr').trans g2))
      all_goals
        have hb2 := hb.drew.trans (hb1.mono hbs)
        clear hb hb1
        go_wp2_with fail
        go_roundw
        case rel => exact ⟨k + 1, by omega, by go_num, hb2⟩
        case measure => simp only [intOf]; omega
    · obtain rfl : k = ks.length := by omega
      go_wp2_with fail
      go_ret
      exact ⟨rfl, hb⟩
set_option maxHeartbeats 2000000 in
theorem eqUnit_self (x : Un) (v v' : Value) (w : World) (hV : UnV w (Lt w.heap.size) x v) (hV' : UnV w (Lt w.heap.size) x v') (hbk : bulkUn x ≤ 2000000) :
    Calls Tryd.prog 11 #[v, v'] w (BoolB true w) := by
  obtain ⟨A0, c0, rfl, r0⟩ := hV
  obtain ⟨B0, e0, rfl, s0⟩ := hV'
  unfold bulkUn at hbk
  obtain ⟨f0⟩ := x
  dsimp only at *
  have K0 := Lib.hid ((BoxV.new w [.slice A0 f0.length c0] 30).below ((Below.refl _ (w.alloc (.cells #[.slice A0 f0.length c0] 30))).alloc (Nat.le_refl _) (.cells #[.slice B0 f0.length e0] 30)) (by rw [World.size_alloc]; omega))
  have sz1 : (w.alloc (.cells #[.slice A0 f0.length c0] 30)).heap.size = w.heap.size + 1 := World.size_alloc _ _
  have X0 := BoxV.new (w.alloc (.cells #[.slice A0 f0.length c0] 30)) [.slice B0 f0.length e0] 30
  rw [sz1] at X0
  replace X0 := Lib.hid X0
  have hx0 : w.heap.size + 1 < ((w.alloc (.cells #[.slice A0 f0.length c0] 30)).alloc (.cells #[.slice B0 f0.length e0] 30)).heap.size := by rw [World.size_alloc, sz1]; omega
  have hb := two_boxes w (.cells #[.slice A0 f0.length c0] 30) (.cells #[.slice B0 f0.length e0] 30)
  have C0 := fun W hh => Lib.hid (eqCodeS_self f0 A0 c0 B0 e0 W (r0.on (w' := W) (B' := W.heap.size) hh hh.size) (s0.on (w' := W) (B' := W.heap.size) hh hh.size) (by omega))
  clear r0 s0 hbk sz1
  have hbs := hb.size
  go_enter Tryd.func11, Tryd.ntmps11
  go_wp2_with fail
  (with_reducible refine Calls.mono (C0 _ hb).out ?_)
  rintro ee w1 ⟨rfl, hc1⟩
  have hb1 := hb.trans (hc1.mono hb.size)
  have K1 := Lib.hid (K0.out.below hc1 (Nat.lt_of_succ_lt hx0))
  have X1 := Lib.hid (X0.out.below hc1 hx0)
  have hx1 := Nat.lt_of_lt_of_le hx0 hc1.size
  clear hc1
  go_wp2_with fail
  go_ret
  exact ⟨rfl, hb1⟩
end Go.Proofs.YtomhomnibikceaaDoor
