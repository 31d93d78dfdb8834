/-
  The law FnExactOutcomeText, walked.
-/
import Derived.Test.YtkhcfhhejmkikaaDoorOD
import Derived.Test.YtkhcfhhejmkikaaDoorOV
namespace Go.Proofs.YtkhcfhhejmkikaaDoor
open Go.RowKit
set_option maxRecDepth 100000

set_option maxHeartbeats 8000000 in
theorem fnExactOutcomeText_walk (a : Oc) (A : Option Addr) (cap : Nat) (A2 : Option Addr) (cap2 : Nat) (w : World) (hR : OcR w a A A2) (hs : SmO a) (hm : MachO a) (P : PTab w) :
    Calls Tryd.prog 3 #[ocV a A cap A2 cap2] w fun ee w' => ee = .returned (.bool true) ∧ Below w.heap.size w w' := by
  have K0 := Lib.hid (Fr4.new w (.slice A a.said.length cap) (.int .i64 a.en) (.int .i64 a.val) (.slice A2 a.cells.length cap2) 24)
  have hb : Below w.heap.size w (w.alloc (.cells #[.slice A a.said.length cap, .int .i64 a.en, .int .i64 a.val, .slice A2 a.cells.length cap2] 24)) := (Below.refl _ _).alloc (Nat.le_refl _) _
  have hlt : w.heap.size < (w.alloc (.cells #[.slice A a.said.length cap, .int .i64 a.en, .int .i64 a.val, .slice A2 a.cells.length cap2] 24)).heap.size := by rw [World.size_alloc]; omega
  have SZ := szOutcome_any a hs A cap A2 cap2 (w.alloc (.cells #[.slice A a.said.length cap, .int .i64 a.en, .int .i64 a.val, .slice A2 a.cells.length cap2] 24)) 1048576 (by omega) (by omega)
  unfold NumB ocV at *
  by_cases hbig : 1048576 < bulkO a
  · rw [szR_no' hbig] at SZ
    replace SZ := Lib.hid SZ
    clear hR hs hm P hbig K0
    go_enter Tryd.func3, Tryd.ntmps3
    go_wp2_with fail
    (with_reducible refine Calls.mono SZ.out ?_)
    rintro ee w1 ⟨rfl, hb1⟩
    have hb2 := hb.trans (hb1.mono hb.size)
    go_wp2_with fail
    go_ret
    exact ⟨rfl, hb2⟩
  have e1 : szR 1048576 (bulkO a) = 1048576 - (bulkO a : Int) := if_neg (by omega)
  rw [e1] at SZ
  have hl : bulkO a ≤ 1048576 := by omega
  have hge : (0 : Int) ≤ 1048576 - bulkO a := by omega
  have TA := fun W (h : Below w.heap.size w W) => Lib.hid (show Calls _ _ _ _ (fun ee w' => (∃ B B', ee = .returned (.agg #[.slice B a.said.length a.said.length, .int .i64 a.en, .int .i64 a.val, .slice B' a.cells.length a.cells.length]) ∧ OcR w' a B B') ∧ Below W.heap.size W w') from toOutcome_any a hl A cap A2 cap2 W (hR.on h))
  have SP := fun W A1 B1 h1 => Lib.hid (show Calls _ _ _ _ (fun ee w' => ee = .returned (.string (tx (outT a))) ∧ Below W.heap.size W w') from specOutcomeText_any a hl hm A1 a.said.length B1 a.cells.length W h1)
  have IM := fun W A1 B1 (h : Below w.heap.size w W) h1 => Lib.hid (show Calls _ _ _ _ (fun ee w' => ee = .returned (.string (tx (outT a))) ∧ Below W.heap.size W w') from implOutcomeText_any a hl hm A1 a.said.length B1 a.cells.length W h1 (P.below h))
  have QA := fun W A1 B1 C1 D1 h1 h2 => Lib.hid (eqOutcome_self a hl A1 a.said.length B1 a.cells.length C1 a.said.length D1 a.cells.length W h1 h2)
  unfold ocV BoolB at *
  replace SZ := Lib.hid SZ
  have HB := Lib.hid hb
  generalize tx (outT a) = z at *
  generalize bulkO a = bk at *
  clear hR hs hm P hbig e1 hl
  go_enter Tryd.func3, Tryd.ntmps3
  go_wp2_with fail
  generalize w.alloc (.cells #[.slice A a.said.length cap, .int .i64 a.en, .int .i64 a.val, .slice A2 a.cells.length cap2] 24) = wa at *
  (with_reducible refine Calls.mono SZ.out ?_)
  rintro ee w1 ⟨rfl, hb1⟩
  have K1 := Lib.hid (K0.out.below hb1 hlt)
  obtain ⟨k0, k1, k2, k3⟩ := K1.out
  have hl1 := Nat.lt_of_lt_of_le hlt hb1.size
  have hs1 := hb.trans (hb1.mono hb.size)
  clear hb1 SZ K0 HB hlt hb
  go_wp2_with fail
  (with_reducible refine Calls.mono (TA _ hs1).out ?_)
  rintro ee w2 ⟨⟨P2, Q2, rfl, hp2⟩, hb2⟩
  have SP2 := Lib.hid (SP w2 P2 Q2 hp2).out
  have K2 := Lib.hid (K1.out.below hb2 hl1)
  have hl2 := Nat.lt_of_lt_of_le hl1 hb2.size
  have hs2 := hs1.trans (hb2.mono hs1.size)
  clear hp2 hb2 K1 hl1 hs1 SP k0 k1 k2 k3
  go_wp2_with fail
  (with_reducible refine Calls.mono SP2.out ?_)
  rintro ee w3 ⟨rfl, hb3⟩
  have K3 := Lib.hid (K2.out.below hb3 hl2)
  obtain ⟨k0, k1, k2, k3⟩ := K3.out
  have hl3 := Nat.lt_of_lt_of_le hl2 hb3.size
  have hs3 := hs2.trans (hb3.mono hs2.size)
  clear hb3 SP2 K2 hl2 hs2
  go_wp2_with fail
  (with_reducible refine Calls.mono (TA _ hs3).out ?_)
  rintro ee w4 ⟨⟨P4, Q4, rfl, hp4⟩, hb4⟩
  have K4 := Lib.hid (K3.out.below hb4 hl3)
  have hl4 := Nat.lt_of_lt_of_le hl3 hb4.size
  have hs4 := hs3.trans (hb4.mono hs3.size)
  have HP4 := Lib.hid hp4
  clear hp4 hb4 K3 hl3 hs3 k0 k1 k2 k3
  go_wp2_with fail
  have hb5 := (Below.refl w4.heap.size w4).alloc (Nat.le_refl _) (.cells #[.slice P4 a.said.length a.said.length, .int .i64 a.en, .int .i64 a.val, .slice Q4 a.cells.length a.cells.length] 27)
  have X5 := Lib.hid (show BxO _ w4.heap.size a P4 Q4 from Fr4.new w4 (.slice P4 a.said.length a.said.length) (.int .i64 a.en) (.int .i64 a.val) (.slice Q4 a.cells.length a.cells.length) 27)
  have hx5 : w4.heap.size < (w4.alloc (.cells #[.slice P4 a.said.length a.said.length, .int .i64 a.en, .int .i64 a.val, .slice Q4 a.cells.length a.cells.length] 27)).heap.size := by rw [World.size_alloc]; omega
  generalize w4.alloc (.cells #[.slice P4 a.said.length a.said.length, .int .i64 a.en, .int .i64 a.val, .slice Q4 a.cells.length a.cells.length] 27) = w5 at *
  have hs5 := hs4.trans (hb5.mono hs4.size)
  have IM1 := Lib.hid (IM w5 P4 Q4 hs5 (HP4.out.on hb5)).out
  have K5 := Lib.hid (K4.out.below hb5 hl4)
  have hl5 := Nat.lt_of_lt_of_le hl4 hb5.size
  clear IM K4
  (with_reducible refine Calls.mono IM1.out ?_)
  rintro ee w6 ⟨rfl, hb6⟩
  have K6 := Lib.hid (show Fr4 w6.drew w.heap.size (.slice A a.said.length cap) (.int .i64 a.en) (.int .i64 a.val) (.slice A2 a.cells.length cap2) from K5.out.below hb6.drew hl5)
  have X6 := Lib.hid (show BxO w6.drew w4.heap.size a P4 Q4 from Fr4.below X5.out hb6.drew hx5)
  obtain ⟨k0, k1, k2, k3⟩ := K5.out.below hb6 hl5
  obtain ⟨x0, x1, x2, x3⟩ := Fr4.below X5.out hb6 hx5
  have hl6 : w.heap.size < w6.drew.heap.size := Nat.lt_of_lt_of_le hl5 hb6.size
  have hx6 : w4.heap.size < w6.drew.heap.size := Nat.lt_of_lt_of_le hx5 hb6.size
  have hs6 : Below w.heap.size w w6.drew := (hs5.trans (hb6.mono hs5.size)).drew
  have hb46 : Below w4.heap.size w4 w6.drew := (hb5.trans (hb6.mono hb5.size)).drew
  have TA6 := Lib.hid (TA _ hs6).out
  have R7 := Lib.hid (show ∀ W, Below w6.drew.heap.size w6.drew W → OcR W a P4 Q4 from fun W h => HP4.out.on (hb46.trans (h.mono hb46.size)))
  clear hb6 hb5 hs5 hl5 hx5 K5 X5 IM1 TA hs4 hl4
  have q1 : (z.toList != z.toList) = false := by simp
  go_wp2_with fail
  go_region_held3 (fun u => u.cell? ⟨w.heap.size, 0, none⟩ = some (.slice A a.said.length cap) ∧ u.cell? ⟨w.heap.size, 1, none⟩ = some (.int .i64 a.en) ∧ u.cell? ⟨w.heap.size, 2, none⟩ = some (.int .i64 a.val) ∧ u.cell? ⟨w.heap.size, 3, none⟩ = some (.slice A2 a.cells.length cap2) ∧ u.cell? ⟨w4.heap.size, 0, none⟩ = some (.slice P4 a.said.length a.said.length) ∧ u.cell? ⟨w4.heap.size, 1, none⟩ = some (.int .i64 a.en) ∧ u.cell? ⟨w4.heap.size, 2, none⟩ = some (.int .i64 a.val) ∧ u.cell? ⟨w4.heap.size, 3, none⟩ = some (.slice Q4 a.cells.length a.cells.length)) (go_keep)
    (first
      | (go_at_call 9; (with_reducible refine Calls.mono TA6.out ?_); rintro ee w7 ⟨⟨P7, Q7, rfl, hp7⟩, hb7⟩; obtain ⟨m0, m1, m2, m3⟩ := K6.out.below hb7 hl6; obtain ⟨y0, y1, y2, y3⟩ := Fr4.below X6.out hb7 hx6; have HP7 := Lib.hid hp7; have K7 := Lib.hid (K6.out.below hb7 hl6); have X7 := Lib.hid (Fr4.below X6.out hb7 hx6); have hl7 := Nat.lt_of_lt_of_le hl6 hb7.size; have hx7 := Nat.lt_of_lt_of_le hx6 hb7.size; clear hp7)
      | (go_at_call 11; (with_reducible refine Calls.mono (QA _ P4 Q4 P7 Q7 (R7.out _ hb7) HP7.out).out ?_); rintro ee w8 ⟨rfl, hb8⟩; obtain ⟨n0, n1, n2, n3⟩ := K7.out.below hb8 hl7; obtain ⟨z0, z1, z2, z3⟩ := Fr4.below X7.out hb8 hx7))
  all_goals
    have hs8 := hs6.trans ((hb7.trans (hb8.mono hb7.size)).mono hs6.size)
    go_wp2_with fail
    go_ret
    exact ⟨rfl, hs8⟩
end Go.Proofs.YtkhcfhhejmkikaaDoor
