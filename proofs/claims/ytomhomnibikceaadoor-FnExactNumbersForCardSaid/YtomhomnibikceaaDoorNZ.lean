/-
  Marks: what the laws' own markers do to rows of numbers, phis, instructions, blocks, whatever they hold.
-/
import Derived.Test.YtomhomnibikceaaDoorNY
import Derived.Test.YtomhomnibikceaaDoorNB
namespace Go.Proofs.YtomhomnibikceaaDoor
open Go.RowKit
set_option maxRecDepth 100000

def MkS (lo hi : Nat) (k m : Int) (w : World) (e : Ending) (w' : World) : Prop := (∃ k', e = .returned (.int .i64 k') ∧ k ≤ k' ∧ k' ≤ k + m) ∧ Soft lo hi w w'
set_option maxHeartbeats 2000000 in
theorem markIntS_soft (lo hi n : Nat) (hn : n ≤ 1048576) (A : Option Addr) (cap : Nat) (k : Int) (h0 : 0 ≤ k) (h1 : k ≤ 4000000000000000000) (w : World) (hR : NumW w lo hi n A) :
    Calls Tryd.prog 29 #[.slice A n cap, .int .i64 k] w (MkS lo hi k n w) := by
  have HR := Lib.hid hR
  clear hR
  go_enter Tryd.func29, Tryd.ntmps29
  go_wp2_with fail
  go_loopw [1, 5] (fun m i wr => ∃ (j : Nat), j ≤ n ∧ i = .int .i64 j ∧ m = .int .i64 (k + j) ∧ Soft lo hi w wr) (fun _ i _ => n - (intOf i).toNat)
  case atStart => exact ⟨0, Nat.zero_le _, rfl, by simp, Soft.refl _ _ _⟩
  case round =>
    obtain ⟨j, hj, rfl, rfl, hs⟩ := hrel
    by_cases hlt : j < n
    · rcases HR.out.soft hs with h | ⟨b, o, rfl, hb, hc⟩
      · omega
      · obtain ⟨x, c0⟩ := hc j hlt
        have f0 := flatFree hb.2.2 (o + j)
        have HS := Lib.hid (hs.trans (Soft.put hb.1 hb.2.1 c0 (k + j)))
        clear hs hc hb
        go_wp2_with fail
        go_roundw
        case rel => exact ⟨j + 1, by omega, by go_num, by go_num, HS.out⟩
        case measure => simp only [intOf]; omega
    · obtain rfl : j = n := by omega
      go_wp2_with fail
      go_ret
      exact ⟨⟨_, rfl, by omega, by omega⟩, hs⟩

set_option maxHeartbeats 4000000 in
theorem markPhiS_soft (lo hi n : Nat) (hn : n ≤ 1048576) (A : Option Addr) (cap : Nat) (k : Int) (h0 : 0 ≤ k) (h1 : k ≤ 3000000000000000000) (w : World) (hR : PhW w lo hi n A) :
    Calls Tryd.prog 76 #[.slice A n cap, .int .i64 k] w (MkS lo hi k (n * 1048577 : Nat) w) := by
  have HR := Lib.hid hR
  clear hR
  go_enter Tryd.func76, Tryd.ntmps76
  go_wp2_with fail
  go_loopw [1, 5] (fun m i wr => ∃ (j : Nat) (q : Int), j ≤ n ∧ i = .int .i64 j ∧ m = .int .i64 q ∧ k ≤ q ∧ q ≤ k + (j * 1048577 : Nat) ∧ Soft lo hi w wr) (fun _ i _ => n - (intOf i).toNat)
  case atStart => exact ⟨0, k, Nat.zero_le _, rfl, rfl, by omega, by omega, Soft.refl _ _ _⟩
  case round =>
    obtain ⟨j, q, hj, rfl, rfl, hq0, hq1, hs⟩ := hrel
    by_cases hlt : j < n
    · rcases HR.out.soft hs with h | ⟨b, o, rfl, hb, hc⟩
      · omega
      · obtain ⟨⟨x0, c0⟩, A1, l1, e1, c1, m1, r1⟩ := hc j hlt
        have f0 := flatFree hb.2.2 (o + j * 2)
        have s1 := Soft.put hb.1 hb.2.1 c0 q
        have c1' := s1.slices _ _ _ _ c1
        have CM := Lib.hid (markIntS_soft lo hi l1 m1 A1 e1 (q + 1) (by omega) (by omega) _ (r1.soft s1))
        have HS := Lib.hid (hs.trans s1)
        clear hs hc hb s1 r1 c1
        go_wp2_with fail
        (with_reducible refine Calls.mono CM.out ?_)
        rintro ee w2 ⟨⟨k', rfl, hk0, hk1⟩, hs2⟩
        go_wp2_with fail
        go_roundw
        case rel => exact ⟨j + 1, k', by omega, by go_num, rfl, by omega, by omega, HS.out.trans hs2⟩
        case measure => simp only [intOf]; omega
    · obtain rfl : j = n := by omega
      go_wp2_with fail
      go_ret
      exact ⟨⟨_, rfl, by omega, by omega⟩, hs⟩

set_option maxHeartbeats 4000000 in
theorem markInsS_soft (lo hi n : Nat) (hn : n ≤ 1048576) (A : Option Addr) (cap : Nat) (k : Int) (h0 : 0 ≤ k) (h1 : k ≤ 3000000000000000000) (w : World) (hR : IkW w lo hi n A) :
    Calls Tryd.prog 77 #[.slice A n cap, .int .i64 k] w (MkS lo hi k (n * 1048579 : Nat) w) := by
  have HR := Lib.hid hR
  clear hR
  go_enter Tryd.func77, Tryd.ntmps77
  go_wp2_with fail
  go_loopw [1, 5] (fun m i wr => ∃ (j : Nat) (q : Int), j ≤ n ∧ i = .int .i64 j ∧ m = .int .i64 q ∧ k ≤ q ∧ q ≤ k + (j * 1048579 : Nat) ∧ Soft lo hi w wr) (fun _ i _ => n - (intOf i).toNat)
  case atStart => exact ⟨0, k, Nat.zero_le _, rfl, rfl, by omega, by omega, Soft.refl _ _ _⟩
  case round =>
    obtain ⟨j, q, hj, rfl, rfl, hq0, hq1, hs⟩ := hrel
    by_cases hlt : j < n
    · rcases HR.out.soft hs with h | ⟨b, o, rfl, hb, hc⟩
      · omega
      · obtain ⟨⟨x0, c0⟩, ⟨x1, c1⟩, ⟨A2, l2, e2, c2, m2, r2⟩, x3, c3⟩ := hc j hlt
        have f0 := flatFree hb.2.2 (o + j * 4)
        have f1 := flatFree hb.2.2 (o + j * 4 + 1)
        have s1 := Soft.put hb.1 hb.2.1 c0 q
        have c1' : (wr.setCell ⟨b, o + j * 4, none⟩ (.int .i64 q)).cell? ⟨b, o + j * 4 + 1, none⟩ = some (.int .i64 x1) := (World.cell?_setCell_other _ _ _ _ (by intro e; injection e; omega)).trans c1
        have s2 := s1.trans (Soft.put hb.1 hb.2.1 c1' (q + 1))
        have c2' := s2.slices _ _ _ _ c2
        have CM := Lib.hid (markIntS_soft lo hi l2 m2 A2 e2 (q + 1 + 1) (by omega) (by omega) _ (r2.soft s2))
        have HS := Lib.hid (hs.trans s2)
        have HB := Lib.hid (show b < hi ∧ lo ≤ b from ⟨hb.2.1, hb.1⟩)
        have HF2 := Lib.hid (s2.flat b hb.2.2)
        have HC3 := Lib.hid (s2.nums _ _ c3)
        clear hs hc hb s1 s2 r2 c2 c3 c1'
        go_wp2_with fail
        (with_reducible refine Calls.mono CM.out ?_)
        rintro ee w2 ⟨⟨k', rfl, hk0, hk1⟩, hs2⟩
        obtain ⟨y3, d3'⟩ := HC3.out
        obtain ⟨z3, d3⟩ := hs2.nums _ _ d3'
        have f3 := flatFree (hs2.flat b HF2.out) (o + j * 4 + 3)
        have HS3 := Lib.hid (HS.out.trans (hs2.trans (Soft.put HB.out.2 HB.out.1 d3 k')))
        clear hs2 d3' c0 c1 f0 f1
        go_wp2_with fail
        go_roundw
        case rel => exact ⟨j + 1, k' + 1, by omega, by go_num, rfl, by omega, by omega, HS3.out⟩
        case measure => simp only [intOf]; omega
    · obtain rfl : j = n := by omega
      go_wp2_with fail
      go_ret
      exact ⟨⟨_, rfl, by omega, by omega⟩, hs⟩

set_option maxHeartbeats 4000000 in
theorem markBlockS_soft (lo hi n : Nat) (hn : n ≤ 1048576) (A : Option Addr) (cap : Nat) (k : Int) (h0 : 0 ≤ k) (h1 : k + (n * 2199030000000 : Nat) ≤ 2900000000000000000) (w : World) (hR : BkW w lo hi n A) :
    Calls Tryd.prog 50 #[.slice A n cap, .int .i64 k] w (MkS lo hi k (n * 2199030000000 : Nat) w) := by
  have HR := Lib.hid hR
  clear hR
  go_enter Tryd.func50, Tryd.ntmps50
  go_wp2_with fail
  go_loopw [1, 5] (fun m i wr => ∃ (j : Nat) (q : Int), j ≤ n ∧ i = .int .i64 j ∧ m = .int .i64 q ∧ k ≤ q ∧ q ≤ k + (j * 2199030000000 : Nat) ∧ Soft lo hi w wr) (fun _ i _ => n - (intOf i).toNat)
  case atStart => exact ⟨0, k, Nat.zero_le _, rfl, rfl, by omega, by omega, Soft.refl _ _ _⟩
  case round =>
    obtain ⟨j, q, hj, rfl, rfl, hq0, hq1, hs⟩ := hrel
    by_cases hlt : j < n
    · rcases HR.out.soft hs with h | ⟨b, o, rfl, hb, hc⟩
      · omega
      · obtain ⟨⟨A0, l0, e0, c0, m0, r0⟩, ⟨A1, l1, e1, c1, m1, r1⟩, ⟨x2, c2⟩, ⟨x3, c3⟩, A4, l4, e4, c4, m4, r4⟩ := hc j hlt
        have CM := Lib.hid (markPhiS_soft lo hi l0 m0 A0 e0 q (by omega) (by omega) _ r0)
        have HB := Lib.hid (show b < hi ∧ lo ≤ b from ⟨hb.2.1, hb.1⟩)
        have HF := Lib.hid hb.2.2
        have HR1 := Lib.hid r1
        have HR4 := Lib.hid r4
        have HC1 := Lib.hid c1
        have HC2 := Lib.hid c2
        have HC3 := Lib.hid c3
        have HC4 := Lib.hid c4
        have HS := Lib.hid hs
        clear hs hc hb r0 r1 r4 c1 c2 c3 c4
        go_wp2_with fail
        (with_reducible refine Calls.mono CM.out ?_)
        rintro ee w2 ⟨⟨k', rfl, hk0, hk1⟩, hs2⟩
        have d1 := hs2.slices _ _ _ _ HC1.out
        have CM2 := Lib.hid (markInsS_soft lo hi l1 m1 A1 e1 k' (by omega) (by omega) _ (HR1.out.soft hs2))
        have HS2 := Lib.hid (HS.out.trans hs2)
        have HF2 := Lib.hid (hs2.flat b HF.out)
        have HR4b := Lib.hid (HR4.out.soft hs2)
        have HC2b := Lib.hid (hs2.nums _ _ HC2.out)
        have HC3b := Lib.hid (hs2.nums _ _ HC3.out)
        have HC4b := Lib.hid (hs2.slices _ _ _ _ HC4.out)
        clear hs2 HS HF HR1 HR4 HC1 HC2 HC3 HC4 c0 CM
        go_wp2_with fail
        (with_reducible refine Calls.mono CM2.out ?_)
        rintro ee w3 ⟨⟨k2, rfl, hk2, hk3⟩, hs3⟩
        obtain ⟨y2, g2'⟩ := HC2b.out
        obtain ⟨z2, g2⟩ := hs3.nums _ _ g2'
        obtain ⟨y3, g3'⟩ := HC3b.out
        obtain ⟨z3, g3⟩ := hs3.nums _ _ g3'
        have f2 := flatFree (hs3.flat b HF2.out) (o + j * 5 + 2)
        have f3 := flatFree (hs3.flat b HF2.out) (o + j * 5 + 3)
        have s1 := Soft.put HB.out.2 HB.out.1 g2 k2
        have g3b : (w3.setCell ⟨b, o + j * 5 + 2, none⟩ (.int .i64 k2)).cell? ⟨b, o + j * 5 + 3, none⟩ = some (.int .i64 z3) := (World.cell?_setCell_other _ _ _ _ (by intro e; injection e; omega)).trans g3
        have s2 := s1.trans (Soft.put HB.out.2 HB.out.1 g3b (k2 + 1))
        have d4 := s2.slices _ _ _ _ (hs3.slices _ _ _ _ HC4b.out)
        have CM4 := Lib.hid (markIntS_soft lo hi l4 m4 A4 e4 (k2 + 1 + 1) (by omega) (by omega) _ ((HR4b.out.soft hs3).soft s2))
        have HS3 := Lib.hid ((HS2.out.trans hs3).trans s2)
        clear hs3 s1 s2 g2' g3' g3b d1 HS2 HF2 HR4b HC2b HC3b HC4b CM2
        go_wp2_with fail
        (with_reducible refine Calls.mono CM4.out ?_)
        rintro ee w5 ⟨⟨k4, rfl, hk4, hk5⟩, hs5⟩
        go_wp2_with fail
        go_roundw
        case rel => exact ⟨j + 1, k4, by omega, by go_num, rfl, by omega, by omega, HS3.out.trans hs5⟩
        case measure => simp only [intOf]; omega
    · obtain rfl : j = n := by omega
      go_wp2_with fail
      go_ret
      exact ⟨⟨_, rfl, by omega, by omega⟩, hs⟩

end Go.Proofs.YtomhomnibikceaaDoor
