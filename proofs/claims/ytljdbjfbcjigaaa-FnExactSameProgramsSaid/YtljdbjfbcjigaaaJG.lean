/-
  The model's comparison of two programs.
-/
import Derived.Test.YtljdbjfbcjigaaaJF
namespace Go.Proofs.Ytljdbjfbcjigaaa
open Go.RowKit
set_option maxRecDepth 100000

open Classical in
set_option maxHeartbeats 2000000 in
theorem l3Texts_quiet (ks ls : List ByteArray) (A B : Option Addr) (c d : Nat) (w : World) (hA : StrS w (Lt w.heap.size) ks A) (hB : StrS w (Lt w.heap.size) ls B) (hn : ks.length ≤ 2000000) (_hn' : ls.length ≤ 2000000) :
    Calls Try.prog 10 #[.slice A ks.length c, .slice B ls.length d] w (fun e w' => e = .returned (.bool (decide (ks = ls))) ∧ ∃ q, w' = w.drewN q) := by
  by_cases h4 : ks.length = ls.length
  · have p4 : ((ks.length : Int) != (ls.length : Int)) = false := by rw [h4]; simp
    have HL := Lib.hid h4
    have HA := Lib.hid hA
    have HB := Lib.hid hB
    clear h4 hA hB
    go_enter Try.func10, Try.ntmps10
    go_wp2_with fail
    go_loopw [5] (fun i wr => ∃ (k : Nat), k ≤ ks.length ∧ i = .int .i64 k ∧ (∀ j, (h : j < ks.length) → (h' : j < ls.length) → j < k → ks[j] = ls[j]) ∧ ∃ q, wr = w.drewN q) (fun i _ => ks.length - (intOf i).toNat)
    case atStart => exact ⟨0, Nat.zero_le _, rfl, fun j _ _ hj => absurd hj (by omega), 0, rfl⟩
    case round =>
      obtain ⟨k, hk, rfl, hall, q0, hq0⟩ := hrel
      have hb : Below w.heap.size w wr := by rw [hq0]; exact below_drewN (Below.refl w.heap.size w) q0
      have HQ0 := Lib.hid hq0
      clear hq0
      by_cases hltk : k < ks.length
      · have hlt' : k < ls.length := by have := HL.out; omega
        have hltk' : (k : Int) < ls.length := by omega
        obtain ⟨b, o, rfl, _, c0⟩ := (HA.out.on hb hb.size).at_ hltk
        obtain ⟨b', o', rfl, _, d0⟩ := (HB.out.on hb hb.size).at_ hlt'
        have HAL := Lib.hid hall; clear hall
        generalize hs0 : ks[k] = x at *
        generalize hs1 : ls[k] = x' at *
        have HS := Lib.hid hs0; clear hs0
        have HS' := Lib.hid hs1; clear hs1
        have hdr := below_drewN hb 0
        by_cases hxx : x = x'
        · have p1 : (x.toList == x'.toList) = true := by rw [hxx]; simp
          have p2 : (x.toList != x'.toList) = false := by rw [bne, p1]; rfl
          have HX := Lib.hid hxx
          clear hxx hdr
          go_wp2_with fail
          go_quiet (fail)
          go_wp2_with fail
          go_roundw
          case rel => exact ⟨k + 1, by omega, by go_num, fun j h1 h2 hjk => by
            by_cases e : j = k
            · subst e; exact (HS.out.trans HX.out).trans HS'.out.symm
            · exact HAL.out j h1 h2 (by omega), (by first | exact ⟨_, HQ0.out⟩ | exact ⟨_, by rw [HQ0.out, World.drewN_drewN]⟩ | exact ⟨_, by rw [HQ0.out]; rfl⟩)⟩
          case measure => simp only [intOf]; omega
        · have p1 : (x.toList == x'.toList) = false := str_eq_false hxx
          have p2 : (x.toList != x'.toList) = true := by rw [bne, p1]; rfl
          have HX := Lib.hid (show ks ≠ ls from fun e => hxx (by have h1 := HS.out; have h2 := HS'.out; simp only [e] at h1; rw [← h1, ← h2]))
          clear hxx hdr
          go_wp2_with fail
          go_quiet (fail)
          go_wp2_with fail
          go_ret
          exact ⟨ret_bool (by rw [eq_comm, decide_eq_false_iff_not]; exact HX.out), (by first | exact ⟨_, HQ0.out⟩ | exact ⟨_, by rw [HQ0.out, World.drewN_drewN]⟩ | exact ⟨_, by rw [HQ0.out]; rfl⟩)⟩
      · obtain rfl : k = ks.length := by omega
        have HAL := Lib.hid hall
        clear hall
        go_wp2_with fail
        go_ret
        refine ⟨ret_bool ?_, (by first | exact ⟨_, HQ0.out⟩ | exact ⟨_, by rw [HQ0.out, World.drewN_drewN]⟩ | exact ⟨_, by rw [HQ0.out]; rfl⟩)⟩
        rw [eq_comm, decide_eq_true_eq]
        exact List.ext_getElem HL.out (fun j h1 h2 => HAL.out j h1 h2 h1)
  · have p4 : ((ks.length : Int) == (ls.length : Int)) = false := beq_no (by omega)
    have p5 : ((ks.length : Int) != (ls.length : Int)) = true := by rw [bne, p4]; rfl
    have HC := Lib.hid h4; clear h4
    go_enter Try.func10, Try.ntmps10
    go_wp2_with fail
    go_ret
    exact ⟨ret_bool (by rw [eq_comm, decide_eq_false_iff_not]; intro h; exact HC.out (by rw [h])), 0, rfl⟩
/-- Two new blocks of one cell. -/
theorem two1 (w : World) (u v : Value) (t t' : TypeId) :
    ((w.alloc (.cells #[u] t)).alloc (.cells #[v] t')).cell? ⟨w.heap.size, 0, none⟩ = some u ∧ ((w.alloc (.cells #[u] t)).alloc (.cells #[v] t')).cell? ⟨w.heap.size + 1, 0, none⟩ = some v ∧
    w.heap.size + 1 < ((w.alloc (.cells #[u] t)).alloc (.cells #[v] t')).heap.size ∧ Below w.heap.size w ((w.alloc (.cells #[u] t)).alloc (.cells #[v] t')) := by
  have s1 : (w.alloc (.cells #[u] t)).heap.size = w.heap.size + 1 := World.size_alloc _ _
  have hal := (Below.refl _ (w.alloc (.cells #[u] t))).alloc (Nat.le_refl _) (.cells #[v] t')
  have Y := alloc_cell (w.alloc (.cells #[u] t)) #[v] t' (0, 0) 0
  rw [s1] at Y
  exact ⟨(hal.cell (p := ⟨w.heap.size, 0, none⟩) (by show w.heap.size < _; rw [s1]; omega)).trans (alloc_cell w _ _ (0, 0) 0), Y, by rw [World.size_alloc, s1]; omega, two_boxes _ _ _⟩
/-- A function's three cells. -/
def B3 (w : World) (b o : Nat) (u0 u1 u2 : Value) : Prop :=
  w.cell? ⟨b, o, none⟩ = some u0 ∧ w.cell? ⟨b, o + 1, none⟩ = some u1 ∧ w.cell? ⟨b, o + 2, none⟩ = some u2
theorem B3.below {w w' : World} {T b o : Nat} {u0 u1 u2 : Value} (h : B3 w b o u0 u1 u2) (hb : Below T w w') (hk : b < T) : B3 w' b o u0 u1 u2 :=
  ⟨(hb.cell (p := ⟨b, o, none⟩) hk).trans h.1, (hb.cell (p := ⟨b, o + 1, none⟩) hk).trans h.2.1, (hb.cell (p := ⟨b, o + 2, none⟩) hk).trans h.2.2⟩
open Classical in
theorem samePB_no {p q : List Fu} (h : p ≠ q) : samePB p q = false := by unfold samePB; rw [decide_eq_false_iff_not]; exact h
open Classical in
theorem samePB_yes {p q : List Fu} (h : p = q) : samePB p q = true := by unfold samePB; rw [decide_eq_true_eq]; exact h
open Classical in
set_option maxHeartbeats 8000000 in
theorem specSamePrograms_any (p q : List Fu) (v u : Value) (w : World) (hp : PrV w (Lt w.heap.size) p v) (hq : PrV w (Lt w.heap.size) q u) (hbk : bulkFL p ≤ 1990000) (hbl : bulkFL q ≤ 1990000) :
    Calls Try.prog 5 #[v, u] w (BoolB (samePB p q) w) := by
  obtain ⟨A, c, rfl, hA⟩ := hp
  obtain ⟨B, d, rfl, hB⟩ := hq
  have hn : p.length ≤ 2000000 := by have := length_le_bulkFL p; omega
  have hn' : q.length ≤ 2000000 := by have := length_le_bulkFL q; omega
  have HZ := Lib.hid (And.intro (@samePB_no p q) (@samePB_yes p q))
  obtain ⟨x0, y0, hlt, hb⟩ := two1 w (.slice A p.length c) (.slice B q.length d) 29 29
  generalize samePB p q = z at *
  by_cases h4 : p.length = q.length
  · have p4 : ((p.length : Int) != (q.length : Int)) = false := by rw [h4]; simp
    have HL := Lib.hid h4
    have HA := Lib.hid hA
    have HB := Lib.hid hB
    have HKS := Lib.hid hbk
    have HLS := Lib.hid hbl
    have HX0 := Lib.hid x0
    have HY0 := Lib.hid y0
    have HW := Lib.hid hb
    clear h4 hA hB hbk hbl
    go_enter Try.func5, Try.ntmps5
    go_wp2_with fail
    generalize (w.alloc (.cells #[.slice A p.length c] 29)).alloc (.cells #[.slice B q.length d] 29) = wa at *
    clear x0 y0 hb
    go_loopw [5] (fun i wr => ∃ (k : Nat), k ≤ p.length ∧ i = .int .i64 k ∧ (∀ j, (h : j < p.length) → (h' : j < q.length) → j < k → p[j] = q[j]) ∧ Below wa.heap.size wa wr) (fun i _ => p.length - (intOf i).toNat)
    case atStart => exact ⟨0, Nat.zero_le _, rfl, fun j _ _ hj => absurd hj (by omega), Below.refl _ _⟩
    case round =>
      obtain ⟨k, hk, rfl, hall, hbr⟩ := hrel
      have hb := HW.out.trans (hbr.mono HW.out.size)
      have x0 := (hbr.cell (p := ⟨w.heap.size, 0, none⟩) (by show w.heap.size < _; omega)).trans HX0.out
      have y0 := (hbr.cell (p := ⟨w.heap.size + 1, 0, none⟩) hlt).trans HY0.out
      have hv : w.heap.size + 1 < wr.heap.size := Nat.lt_of_lt_of_le hlt hbr.size
      have hu : w.heap.size < wr.heap.size := by omega
      by_cases hltk : k < p.length
      · have hlt' : k < q.length := by have := HL.out; omega
        have hltk' : (k : Int) < q.length := by omega
        have HALL := Lib.hid hall
        obtain ⟨b, o, rfl, hBw, c0, ⟨A1, p1, c1, r1⟩, A2, p2, c2, r2⟩ := HA.out.at_ hltk
        obtain ⟨b', o', rfl, hBw', d0, ⟨E1, q1, d1, s1⟩, E2, q2, d2, s2⟩ := HB.out.at_ hlt'
        have hBr : b < wr.heap.size := Nat.lt_of_lt_of_le hBw hb.size
        have hBr' : b' < wr.heap.size := Nat.lt_of_lt_of_le hBw' hb.size
        replace c0 := (hb.cell (p := ⟨b, o + k * 3, none⟩) hBw).trans c0
        replace c1 := (hb.cell (p := ⟨b, o + k * 3 + 1, none⟩) hBw).trans c1
        replace c2 := (hb.cell (p := ⟨b, o + k * 3 + 2, none⟩) hBw).trans c2
        replace d0 := (hb.cell (p := ⟨b', o' + k * 3, none⟩) hBw').trans d0
        replace d1 := (hb.cell (p := ⟨b', o' + k * 3 + 1, none⟩) hBw').trans d1
        replace d2 := (hb.cell (p := ⟨b', o' + k * 3 + 2, none⟩) hBw').trans d2
        have hm1 := bulkFL_mem (List.getElem_mem hltk)
        have hm2 := bulkFL_mem (List.getElem_mem hlt')
        have hf1 : bulkF p[k] = p[k].name.size + bulkS p[k].params + bulkTL p[k].body := rfl
        have hf2 : bulkF q[k] = q[k].name.size + bulkS q[k].params + bulkTL q[k].body := rfl
        have hl1 := length_le_bulkS p[k].params
        have hl2 := length_le_bulkS q[k].params
        have hks := HKS.out
        have hls := HLS.out
        have LT := fun W (h : Below w.heap.size w W) => Lib.hid (l3Texts_any p[k].params q[k].params A1 E1 p1 q1 W (r1.on h h.size) (s1.on h h.size) (by omega) (by omega))
        have LQ := fun W (h : Below w.heap.size w W) => Lib.hid (l3Texts_quiet p[k].params q[k].params A1 E1 p1 q1 W (r1.on h h.size) (s1.on h h.size) (by omega) (by omega))
        have LS := fun W (h : Below w.heap.size w W) => Lib.hid (l3SameList_any _ p[k].body (Nat.le_refl _) q[k].body A2 E2 p2 q2 W (r2.on h h.size) (s2.on h h.size) (by omega) (by omega))
        have HNO : Hid (p[k] ≠ q[k] → z = false) := Lib.hid fun h => HZ.out.1 fun e => h (by simp only [e])
        have HNX : Hid (p[k] = q[k] → ∀ j, (h : j < p.length) → (h' : j < q.length) → j < k + 1 → p[j] = q[j]) := Lib.hid fun e j h h' hj => by
          by_cases ej : j = k
          · subst ej; exact e
          · exact HALL.out j h h' (by omega)
        clear hall r1 r2 s1 s2 hm1 hm2 hf1 hf2 hl1 hl2 hks hls hBw hBw'
        generalize p[k] = x at *
        generalize q[k] = y at *
        obtain ⟨nm, ps, bd⟩ := x
        obtain ⟨nm', ps', bd'⟩ := y
        dsimp only at *
        by_cases h1 : nm = nm'
        · subst h1
          have i2 : (nm.toList == nm.toList) = true := by simp
          have i3 : (nm.toList != nm.toList) = false := by rw [bne, i2]; rfl
          by_cases h2 : ps = ps'
          · subst h2
            have e1 : decide (ps = ps) = true := decide_eq_true rfl
            have hbd := hb.drew
            have hbrd := (Below.refl wr.heap.size wr).drew
            have LT1 := (LT _ hbd).out
            rw [e1] at LT1
            replace LT1 := Lib.hid LT1
            have HQ := Lib.hid (And.intro (@sameLB_ne bd bd') (sameLB_iff bd bd').1)
            generalize sameLB bd bd' = zb at *
            clear LT LQ e1
            cases zb
            · have HF := Lib.hid (HNO.out fun e => HQ.out.1 (by trivial) (by injection e))
              go_wp2_with fail
              go_region_held3 (fun v => v.cell? ⟨w.heap.size, 0, none⟩ = some (.slice (some ⟨b, o, none⟩) p.length c) ∧ v.cell? ⟨w.heap.size + 1, 0, none⟩ = some (.slice (some ⟨b', o', none⟩) q.length d) ∧ v.cell? ⟨b, o + k * 3, none⟩ = some (.string nm) ∧ v.cell? ⟨b, o + k * 3 + 1, none⟩ = some (.slice A1 ps.length p1) ∧ v.cell? ⟨b, o + k * 3 + 2, none⟩ = some (.slice A2 bd.length p2) ∧ v.cell? ⟨b', o' + k * 3, none⟩ = some (.string nm) ∧ v.cell? ⟨b', o' + k * 3 + 1, none⟩ = some (.slice E1 ps.length q1) ∧ v.cell? ⟨b', o' + k * 3 + 2, none⟩ = some (.slice E2 bd'.length q2)) (go_keep)
                (first
                  | (go_at_call 10; (with_reducible refine Calls.mono LT1.out ?_); rintro ee w2 ⟨rfl, hb2⟩; have hb3 := hbd.trans (hb2.mono hbd.size); have hb3r := hbrd.trans (hb2.mono hbrd.size); have g0 := (hb2.cell (p := ⟨w.heap.size, 0, none⟩) hu).trans x0; have g1 := (hb2.cell (p := ⟨w.heap.size + 1, 0, none⟩) hv).trans y0; have g2 := (hb2.cell (p := ⟨b, o + k * 3, none⟩) hBr).trans c0; have g3 := (hb2.cell (p := ⟨b, o + k * 3 + 1, none⟩) hBr).trans c1; have g4 := (hb2.cell (p := ⟨b, o + k * 3 + 2, none⟩) hBr).trans c2; have g5 := (hb2.cell (p := ⟨b', o' + k * 3, none⟩) hBr').trans d0; have g6 := (hb2.cell (p := ⟨b', o' + k * 3 + 1, none⟩) hBr').trans d1; have g7 := (hb2.cell (p := ⟨b', o' + k * 3 + 2, none⟩) hBr').trans d2; have LS1 := Lib.hid (LS _ hb3).out)
                  | (go_at_call 11; (with_reducible refine Calls.mono LS1.out ?_); rintro ee w4 ⟨rfl, hb4⟩; have hb5 := hb3.trans (hb4.mono hb3.size); have hb6 := hb3r.trans (hb4.mono hb3r.size); have k0 := (hb4.cell (p := ⟨w.heap.size, 0, none⟩) (Nat.lt_of_lt_of_le hu hb3r.size)).trans g0; have k1 := (hb4.cell (p := ⟨w.heap.size + 1, 0, none⟩) (Nat.lt_of_lt_of_le hv hb3r.size)).trans g1; have k2 := (hb4.cell (p := ⟨b, o + k * 3, none⟩) (Nat.lt_of_lt_of_le hBr hb3r.size)).trans g2; have k3 := (hb4.cell (p := ⟨b, o + k * 3 + 1, none⟩) (Nat.lt_of_lt_of_le hBr hb3r.size)).trans g3; have k4 := (hb4.cell (p := ⟨b, o + k * 3 + 2, none⟩) (Nat.lt_of_lt_of_le hBr hb3r.size)).trans g4; have k5 := (hb4.cell (p := ⟨b', o' + k * 3, none⟩) (Nat.lt_of_lt_of_le hBr' hb3r.size)).trans g5; have k6 := (hb4.cell (p := ⟨b', o' + k * 3 + 1, none⟩) (Nat.lt_of_lt_of_le hBr' hb3r.size)).trans g6; have k7 := (hb4.cell (p := ⟨b', o' + k * 3 + 2, none⟩) (Nat.lt_of_lt_of_le hBr' hb3r.size)).trans g7))
              all_goals
                go_wp2_with fail
                go_ret
                exact ⟨ret_bool HF.out.symm, hb5⟩
            · have HF := Lib.hid (HNX.out (by rw [HQ.out.2 (by trivial)]))
              go_wp2_with fail
              go_region_held3 (fun v => v.cell? ⟨w.heap.size, 0, none⟩ = some (.slice (some ⟨b, o, none⟩) p.length c) ∧ v.cell? ⟨w.heap.size + 1, 0, none⟩ = some (.slice (some ⟨b', o', none⟩) q.length d) ∧ v.cell? ⟨b, o + k * 3, none⟩ = some (.string nm) ∧ v.cell? ⟨b, o + k * 3 + 1, none⟩ = some (.slice A1 ps.length p1) ∧ v.cell? ⟨b, o + k * 3 + 2, none⟩ = some (.slice A2 bd.length p2) ∧ v.cell? ⟨b', o' + k * 3, none⟩ = some (.string nm) ∧ v.cell? ⟨b', o' + k * 3 + 1, none⟩ = some (.slice E1 ps.length q1) ∧ v.cell? ⟨b', o' + k * 3 + 2, none⟩ = some (.slice E2 bd'.length q2)) (go_keep)
                (first
                  | (go_at_call 10; (with_reducible refine Calls.mono LT1.out ?_); rintro ee w2 ⟨rfl, hb2⟩; have hb3 := hbd.trans (hb2.mono hbd.size); have hb3r := hbrd.trans (hb2.mono hbrd.size); have g0 := (hb2.cell (p := ⟨w.heap.size, 0, none⟩) hu).trans x0; have g1 := (hb2.cell (p := ⟨w.heap.size + 1, 0, none⟩) hv).trans y0; have g2 := (hb2.cell (p := ⟨b, o + k * 3, none⟩) hBr).trans c0; have g3 := (hb2.cell (p := ⟨b, o + k * 3 + 1, none⟩) hBr).trans c1; have g4 := (hb2.cell (p := ⟨b, o + k * 3 + 2, none⟩) hBr).trans c2; have g5 := (hb2.cell (p := ⟨b', o' + k * 3, none⟩) hBr').trans d0; have g6 := (hb2.cell (p := ⟨b', o' + k * 3 + 1, none⟩) hBr').trans d1; have g7 := (hb2.cell (p := ⟨b', o' + k * 3 + 2, none⟩) hBr').trans d2; have LS1 := Lib.hid (LS _ hb3).out)
                  | (go_at_call 11; (with_reducible refine Calls.mono LS1.out ?_); rintro ee w4 ⟨rfl, hb4⟩; have hb5 := hb3.trans (hb4.mono hb3.size); have hb6 := hb3r.trans (hb4.mono hb3r.size); have k0 := (hb4.cell (p := ⟨w.heap.size, 0, none⟩) (Nat.lt_of_lt_of_le hu hb3r.size)).trans g0; have k1 := (hb4.cell (p := ⟨w.heap.size + 1, 0, none⟩) (Nat.lt_of_lt_of_le hv hb3r.size)).trans g1; have k2 := (hb4.cell (p := ⟨b, o + k * 3, none⟩) (Nat.lt_of_lt_of_le hBr hb3r.size)).trans g2; have k3 := (hb4.cell (p := ⟨b, o + k * 3 + 1, none⟩) (Nat.lt_of_lt_of_le hBr hb3r.size)).trans g3; have k4 := (hb4.cell (p := ⟨b, o + k * 3 + 2, none⟩) (Nat.lt_of_lt_of_le hBr hb3r.size)).trans g4; have k5 := (hb4.cell (p := ⟨b', o' + k * 3, none⟩) (Nat.lt_of_lt_of_le hBr' hb3r.size)).trans g5; have k6 := (hb4.cell (p := ⟨b', o' + k * 3 + 1, none⟩) (Nat.lt_of_lt_of_le hBr' hb3r.size)).trans g6; have k7 := (hb4.cell (p := ⟨b', o' + k * 3 + 2, none⟩) (Nat.lt_of_lt_of_le hBr' hb3r.size)).trans g7))
              all_goals
                go_wp2_with fail
                go_roundw
                case rel => exact ⟨k + 1, by omega, by go_num, HF.out, hbr.trans (hb6.mono hbr.size)⟩
                case measure => simp only [intOf]; omega
          · have e1 : decide (ps = ps') = false := decide_eq_false h2
            have HF := Lib.hid (HNO.out fun e => h2 (by injection e))
            have LQ1 := fun W h => (LQ W h).out
            simp only [e1] at LQ1
            replace LQ1 := fun W h => Lib.hid (LQ1 W h)
            have LQ2 := Lib.hid (show ∀ n, Calls Try.prog 10 #[.slice A1 ps.length p1, .slice E1 ps'.length q1] (wr.drewN n) _ from fun n => (LQ1 (wr.drewN n) (below_drewN hb n)).out)
            clear LT LS LQ LQ1 h2 e1
            go_wp2_with fail
            go_quiet (first | (go_at_call 10; exact Calls.quiet_of (LQ2.out _)))
            have hdn := fun q => below_drewN hb q
            go_wp2_with fail
            go_ret
            exact ⟨ret_bool HF.out.symm, hdn _⟩
        · have i2 : (nm.toList == nm'.toList) = false := str_eq_false h1
          have i3 : (nm.toList != nm'.toList) = true := by rw [bne, i2]; rfl
          have HF := Lib.hid (HNO.out fun e => h1 (by injection e))
          clear h1 LT LS LQ
          go_wp2_with fail
          go_quiet (fail)
          have hdn := fun q => below_drewN hb q
          go_wp2_with fail
          go_ret
          exact ⟨ret_bool HF.out.symm, hdn _⟩
      · obtain rfl : k = p.length := by omega
        have HAL := Lib.hid (HZ.out.2 (List.ext_getElem HL.out (fun j h1 h2 => hall j h1 h2 h1)))
        clear hall
        go_wp2_with fail
        go_ret
        exact ⟨ret_bool HAL.out.symm, hb⟩
  · have p4 : ((p.length : Int) == (q.length : Int)) = false := beq_no (by omega)
    have p5 : ((p.length : Int) != (q.length : Int)) = true := by rw [bne, p4]; rfl
    have HC := Lib.hid (HZ.out.1 fun e => h4 (by rw [e])); clear h4
    go_enter Try.func5, Try.ntmps5
    go_wp2_with fail
    go_ret
    exact ⟨ret_bool HC.out.symm, hb⟩
end Go.Proofs.Ytljdbjfbcjigaaa
