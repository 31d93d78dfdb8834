/-
  Whether two outcomes are the same: the model, the program, the laws' own helper.
-/
import Derived.Test.YtkhcfhhejmkikaaDoorOB
import Derived.BigQuiet
import Derived.RegionTactic
namespace Go.Proofs.YtkhcfhhejmkikaaDoor
open Go.RowKit
set_option maxRecDepth 100000

/-- Two boxes of four cells. -/
theorem two4o (w : World) (u0 u1 u2 u3 v0 v1 v2 v3 : Value) (t t' : TypeId) :
    BoxV ((w.alloc (.cells #[u0, u1, u2, u3] t)).alloc (.cells #[v0, v1, v2, v3] t')) w.heap.size [u0, u1, u2, u3] ∧ BoxV ((w.alloc (.cells #[u0, u1, u2, u3] t)).alloc (.cells #[v0, v1, v2, v3] t')) (w.heap.size + 1) [v0, v1, v2, v3] ∧
    w.heap.size + 1 < ((w.alloc (.cells #[u0, u1, u2, u3] t)).alloc (.cells #[v0, v1, v2, v3] t')).heap.size ∧ Below w.heap.size w ((w.alloc (.cells #[u0, u1, u2, u3] t)).alloc (.cells #[v0, v1, v2, v3] t')) := by
  have s1 : (w.alloc (.cells #[u0, u1, u2, u3] t)).heap.size = w.heap.size + 1 := World.size_alloc _ _
  have h1 := (Below.refl _ (w.alloc (.cells #[u0, u1, u2, u3] t))).alloc (Nat.le_refl _) (.cells #[v0, v1, v2, v3] t')
  have A : BoxV (w.alloc (.cells #[u0, u1, u2, u3] t)) w.heap.size [u0, u1, u2, u3] := BoxV.new w [u0, u1, u2, u3] t
  have B : BoxV ((w.alloc (.cells #[u0, u1, u2, u3] t)).alloc (.cells #[v0, v1, v2, v3] t')) (w.alloc (.cells #[u0, u1, u2, u3] t)).heap.size [v0, v1, v2, v3] := BoxV.new (w.alloc (.cells #[u0, u1, u2, u3] t)) [v0, v1, v2, v3] t'
  rw [s1] at B
  refine ⟨A.below h1 (by omega), B, by rw [World.size_alloc, s1]; omega, ((Below.refl _ _).alloc (Nat.le_refl _) _).alloc (by rw [s1]; omega) _⟩
set_option maxHeartbeats 1000000 in
theorem equalInts_any (A : Option Addr) (xs : List Int) (cap : Nat) (A' : Option Addr) (ys : List Int) (cap' : Nat) (w : World) (hW : Ints w w.heap.size A xs) (hW' : Ints w w.heap.size A' ys) (hn : xs.length ≤ 140737488351232) (hn' : ys.length ≤ 140737488351232) :
    Calls Tryd.prog 35 #[.slice A xs.length cap, .slice A' ys.length cap'] w fun e w' => e = .returned (.bool (decide (xs = ys))) ∧ Below w.heap.size w w' := by
  by_cases hl : xs.length = ys.length
  · have e1 : ((xs.length : Int) == (ys.length : Int)) = true := by rw [beq_iff_eq]; omega
    have e2 : ((xs.length : Int) != (ys.length : Int)) = false := by rw [bne, e1]; rfl
    have HL := Lib.hid hl; clear hl
    go_enter Tryd.func35, Tryd.ntmps35
    go_wp2
    clear e1 e2
    go_loopw [13] (fun i wr => ∃ (k : Nat), k ≤ xs.length ∧ i = .int .i64 k ∧ (∀ j, (h : j < xs.length) → (h' : j < ys.length) → j < k → xs[j] = ys[j]) ∧ Below w.heap.size w wr) (fun i _ => xs.length - (intOf i).toNat)
    case atStart => exact ⟨0, Nat.zero_le _, rfl, fun j _ _ hj => absurd hj (by omega), Below.refl _ _⟩
    case round =>
      obtain ⟨k, hk, rfl, hall, hb⟩ := hrel
      by_cases hlt : k < xs.length
      · have hlt' : k < ys.length := by have := HL.out; omega
        obtain ⟨b, o, rfl, hB, hc1⟩ := (hW.below hb).at_ hlt
        obtain ⟨b', o', rfl, hB', hc1'⟩ := (hW'.below hb).at_ hlt'
        have HA := Lib.hid hall; clear hall
        generalize hs0 : xs[k] = x at *
        generalize hs1 : ys[k] = y at *
        have HS := Lib.hid hs0; clear hs0
        have HS' := Lib.hid hs1; clear hs1
        by_cases hx : x = y
        · have e1 : (x == y) = true := by rw [beq_iff_eq]; exact hx
          have e2 : (x != y) = false := by rw [bne, e1]; rfl
          have HX := Lib.hid hx
          clear hx
          go_wp2
          go_quiet (fail)
          all_goals
            have hb2 := below_drewN hb nq
            go_wp2
            go_roundw
            case rel => exact ⟨k + 1, by omega, by go_num, fun j h1 h2 hjk => by
              by_cases e : j = k
              · subst e; exact (HS.out.trans HX.out).trans HS'.out.symm
              · exact HA.out j h1 h2 (by omega), hb2⟩
            case measure => simp only [intOf]; omega
        · have e1 : (x == y) = false := by rw [beq_eq_false_iff_ne]; exact hx
          have e2 : (x != y) = true := by rw [bne, e1]; rfl
          have HX := Lib.hid (show xs ≠ ys by rintro rfl; exact hx (HS.out.symm.trans HS'.out))
          clear hx
          go_wp2
          go_quiet (fail)
          all_goals
            have hb2 := below_drewN hb nq
            go_wp2
            go_ret
            exact ⟨ret_bool (by simp [HX.out]), hb2⟩
      · obtain rfl : k = xs.length := by omega
        go_wp2
        go_ret
        refine ⟨ret_bool ?_, hb⟩
        rw [eq_comm, decide_eq_true_eq]
        exact List.ext_getElem HL.out (fun j h1 h2 => hall j h1 h2 h1)
  · have e1 : ((xs.length : Int) == (ys.length : Int)) = false := by rw [beq_eq_false_iff_ne]; omega
    have e2 : ((xs.length : Int) != (ys.length : Int)) = true := by rw [bne, e1]; rfl
    have HL := Lib.hid hl; clear hl
    go_enter Tryd.func35, Tryd.ntmps35
    go_wp2
    go_ret
    refine ⟨ret_bool ?_, Below.refl _ _⟩
    rw [eq_comm, decide_eq_false_iff_not]
    rintro rfl
    exact HL.out rfl
theorem eq_tt {x y : Int} (h : x = y) : (x == y) = true := by rw [beq_iff_eq]; exact h
theorem eq_ff {x y : Int} (h : x ≠ y) : (x == y) = false := by rw [beq_eq_false_iff_ne]; exact h
set_option maxHeartbeats 2000000 in
theorem specSameOutcome_any (a b : Oc) (A : Option Addr) (c : Nat) (A2 : Option Addr) (c2 : Nat) (B : Option Addr) (d : Nat) (B2 : Option Addr) (d2 : Nat) (w : World) (hR : OcR w a A A2) (hR' : OcR w b B B2) (hl : bulkO a ≤ 1048576) (hl' : bulkO b ≤ 1048576) :
    Calls Tryd.prog 14 #[ocV a A c A2 c2, ocV b B d B2 d2] w (BoolB (sameO a b) w) := by
  unfold ocV sameO
  unfold bulkO at hl hl'
  obtain ⟨U, V, hlt, hb⟩ := two4o w (.slice A a.said.length c) (.int .i64 a.en) (.int .i64 a.val) (.slice A2 a.cells.length c2) (.slice B b.said.length d) (.int .i64 b.en) (.int .i64 b.val) (.slice B2 b.cells.length d2) 27 27
  have E1 := fun W (h : Below w.heap.size w W) => l5Ints_any A a.said c B b.said d W (hR.1.on h) (hR'.1.on h) (by omega) (by omega)
  have E2 := fun W (h : Below w.heap.size w W) => l5Ints_any A2 a.cells c2 B2 b.cells d2 W (hR.2.on h) (hR'.2.on h) (by omega) (by omega)
  have u1 := U 1 _ rfl
  clear hR hR'
  have HU := Lib.hid U
  have HV := Lib.hid V
  clear U V
  cases h1 : decide (a.said = b.said)
  · rw [h1] at E1
    have E1 := fun W h => Lib.hid (E1 W h)
    have E2 := Lib.hid E2
    clear h1
    go_enter Tryd.func14, Tryd.ntmps14
    go_wp2_with fail
    (with_reducible refine Calls.mono (E1 _ hb).out ?_)
    rintro ee w1 ⟨rfl, hb1⟩
    have hb2 := hb.trans (hb1.mono (by have := hb.size; omega))
    clear hb1 hb
    go_wp2_with fail
    go_ret
    exact ⟨ret_bool (by simp), hb2⟩
  · rw [h1] at E1
    have E1 := fun W h => Lib.hid (E1 W h)
    clear h1
    have CELLS : ∀ W, Below (w.heap.size + 1 + 1) ((w.alloc (.cells #[.slice A a.said.length c, .int .i64 a.en, .int .i64 a.val, .slice A2 a.cells.length c2] 27)).alloc (.cells #[.slice B b.said.length d, .int .i64 b.en, .int .i64 b.val, .slice B2 b.cells.length d2] 27)) W → BoxV W w.heap.size [.slice A a.said.length c, .int .i64 a.en, .int .i64 a.val, .slice A2 a.cells.length c2] ∧ BoxV W (w.heap.size + 1) [.slice B b.said.length d, .int .i64 b.en, .int .i64 b.val, .slice B2 b.cells.length d2] :=
      fun W h => ⟨HU.out.below h (by omega), HV.out.below h (by omega)⟩
    have HC := Lib.hid CELLS
    clear CELLS
    by_cases h2 : a.en = b.en
    · have q2 := eq_tt h2
      have H2 := Lib.hid h2
      clear h2
      by_cases h3 : a.val = b.val
      · have q3 := eq_tt h3
        have H3 := Lib.hid h3
        clear h3
        have E2 := fun W h => Lib.hid (E2 W h)
        go_enter Tryd.func14, Tryd.ntmps14
        go_wp2_with fail
        (with_reducible refine Calls.mono (E1 _ hb).out ?_)
        rintro ee w1 ⟨rfl, hb1⟩
        have hb2 := hb.trans (hb1.mono (by have := hb.size; omega))
        obtain ⟨U1, V1⟩ := HC.out w1 (hb1.mono (by omega))
        have a1 := U1 1 _ rfl
        have a2 := U1 2 _ rfl
        have a3 := U1 3 _ rfl
        have b1 := V1 1 _ rfl
        have b2 := V1 2 _ rfl
        have b3 := V1 3 _ rfl
        clear hb1 hb U1 V1
        go_wp2_with fail
        (with_reducible refine Calls.mono (E2 _ hb2).out ?_)
        rintro ee w2 ⟨rfl, hb3⟩
        have hb4 := hb2.trans (hb3.mono hb2.size)
        clear hb3
        go_wp2_with fail
        go_ret
        exact ⟨ret_bool (by rw [decide_eq_true H2.out, decide_eq_true H3.out]; simp), hb4⟩
      · have q3 := eq_ff h3
        have H3 := Lib.hid h3
        clear h3 E2
        go_enter Tryd.func14, Tryd.ntmps14
        go_wp2_with fail
        (with_reducible refine Calls.mono (E1 _ hb).out ?_)
        rintro ee w1 ⟨rfl, hb1⟩
        have hb2 := hb.trans (hb1.mono (by have := hb.size; omega))
        obtain ⟨U1, V1⟩ := HC.out w1 (hb1.mono (by omega))
        have a1 := U1 1 _ rfl
        have a2 := U1 2 _ rfl
        have b1 := V1 1 _ rfl
        have b2 := V1 2 _ rfl
        clear hb1 hb U1 V1
        go_wp2_with fail
        go_ret
        exact ⟨ret_bool (by rw [decide_eq_false H3.out]; simp), hb2⟩
    · have q2 := eq_ff h2
      have H2 := Lib.hid h2
      clear h2 E2
      go_enter Tryd.func14, Tryd.ntmps14
      go_wp2_with fail
      (with_reducible refine Calls.mono (E1 _ hb).out ?_)
      rintro ee w1 ⟨rfl, hb1⟩
      have hb2 := hb.trans (hb1.mono (by have := hb.size; omega))
      obtain ⟨U1, V1⟩ := HC.out w1 (hb1.mono (by omega))
      have a1 := U1 1 _ rfl
      have b1 := V1 1 _ rfl
      clear hb1 hb U1 V1
      go_wp2_with fail
      go_ret
      exact ⟨ret_bool (by rw [decide_eq_false H2.out]; simp), hb2⟩
set_option maxHeartbeats 2000000 in
theorem implSameOutcome_any (a b : Oc) (A : Option Addr) (c : Nat) (A2 : Option Addr) (c2 : Nat) (B : Option Addr) (d : Nat) (B2 : Option Addr) (d2 : Nat) (w : World) (hR : OcR w a A A2) (hR' : OcR w b B B2) (hl : bulkO a ≤ 1048576) (hl' : bulkO b ≤ 1048576) :
    Calls Tryd.prog 13 #[ocV a A c A2 c2, ocV b B d B2 d2] w (BoolB (sameO a b) w) := by
  unfold ocV sameO
  unfold bulkO at hl hl'
  obtain ⟨U, V, hlt, hb⟩ := two4o w (.slice A a.said.length c) (.int .i64 a.en) (.int .i64 a.val) (.slice A2 a.cells.length c2) (.slice B b.said.length d) (.int .i64 b.en) (.int .i64 b.val) (.slice B2 b.cells.length d2) 27 27
  have E1 := fun W (h : Below w.heap.size w W) => equalInts_any A a.said c B b.said d W (hR.1.on h) (hR'.1.on h) (by omega) (by omega)
  have E2 := fun W (h : Below w.heap.size w W) => equalInts_any A2 a.cells c2 B2 b.cells d2 W (hR.2.on h) (hR'.2.on h) (by omega) (by omega)
  have u1 := U 1 _ rfl
  clear hR hR'
  have HU := Lib.hid U
  have HV := Lib.hid V
  clear U V
  cases h1 : decide (a.said = b.said)
  · rw [h1] at E1
    have E1 := fun W h => Lib.hid (E1 W h)
    have E2 := Lib.hid E2
    clear h1
    go_enter Tryd.func13, Tryd.ntmps13
    go_wp2_with fail
    (with_reducible refine Calls.mono (E1 _ hb).out ?_)
    rintro ee w1 ⟨rfl, hb1⟩
    have hb2 := hb.trans (hb1.mono (by have := hb.size; omega))
    clear hb1 hb
    go_wp2_with fail
    go_ret
    exact ⟨ret_bool (by simp), hb2⟩
  · rw [h1] at E1
    have E1 := fun W h => Lib.hid (E1 W h)
    clear h1
    have CELLS : ∀ W, Below (w.heap.size + 1 + 1) ((w.alloc (.cells #[.slice A a.said.length c, .int .i64 a.en, .int .i64 a.val, .slice A2 a.cells.length c2] 27)).alloc (.cells #[.slice B b.said.length d, .int .i64 b.en, .int .i64 b.val, .slice B2 b.cells.length d2] 27)) W → BoxV W w.heap.size [.slice A a.said.length c, .int .i64 a.en, .int .i64 a.val, .slice A2 a.cells.length c2] ∧ BoxV W (w.heap.size + 1) [.slice B b.said.length d, .int .i64 b.en, .int .i64 b.val, .slice B2 b.cells.length d2] :=
      fun W h => ⟨HU.out.below h (by omega), HV.out.below h (by omega)⟩
    have HC := Lib.hid CELLS
    clear CELLS
    by_cases h2 : a.en = b.en
    · have q2 := eq_tt h2
      have H2 := Lib.hid h2
      clear h2
      by_cases h3 : a.val = b.val
      · have q3 := eq_tt h3
        have H3 := Lib.hid h3
        clear h3
        have E2 := fun W h => Lib.hid (E2 W h)
        go_enter Tryd.func13, Tryd.ntmps13
        go_wp2_with fail
        (with_reducible refine Calls.mono (E1 _ hb).out ?_)
        rintro ee w1 ⟨rfl, hb1⟩
        have hb2 := hb.trans (hb1.mono (by have := hb.size; omega))
        obtain ⟨U1, V1⟩ := HC.out w1 (hb1.mono (by omega))
        have a1 := U1 1 _ rfl
        have a2 := U1 2 _ rfl
        have a3 := U1 3 _ rfl
        have b1 := V1 1 _ rfl
        have b2 := V1 2 _ rfl
        have b3 := V1 3 _ rfl
        clear hb1 hb U1 V1
        go_wp2_with fail
        (with_reducible refine Calls.mono (E2 _ hb2).out ?_)
        rintro ee w2 ⟨rfl, hb3⟩
        have hb4 := hb2.trans (hb3.mono hb2.size)
        clear hb3
        go_wp2_with fail
        go_ret
        exact ⟨ret_bool (by rw [decide_eq_true H2.out, decide_eq_true H3.out]; simp), hb4⟩
      · have q3 := eq_ff h3
        have H3 := Lib.hid h3
        clear h3 E2
        go_enter Tryd.func13, Tryd.ntmps13
        go_wp2_with fail
        (with_reducible refine Calls.mono (E1 _ hb).out ?_)
        rintro ee w1 ⟨rfl, hb1⟩
        have hb2 := hb.trans (hb1.mono (by have := hb.size; omega))
        obtain ⟨U1, V1⟩ := HC.out w1 (hb1.mono (by omega))
        have a1 := U1 1 _ rfl
        have a2 := U1 2 _ rfl
        have b1 := V1 1 _ rfl
        have b2 := V1 2 _ rfl
        clear hb1 hb U1 V1
        go_wp2_with fail
        go_ret
        exact ⟨ret_bool (by rw [decide_eq_false H3.out]; simp), hb2⟩
    · have q2 := eq_ff h2
      have H2 := Lib.hid h2
      clear h2 E2
      go_enter Tryd.func13, Tryd.ntmps13
      go_wp2_with fail
      (with_reducible refine Calls.mono (E1 _ hb).out ?_)
      rintro ee w1 ⟨rfl, hb1⟩
      have hb2 := hb.trans (hb1.mono (by have := hb.size; omega))
      obtain ⟨U1, V1⟩ := HC.out w1 (hb1.mono (by omega))
      have a1 := U1 1 _ rfl
      have b1 := V1 1 _ rfl
      clear hb1 hb U1 V1
      go_wp2_with fail
      go_ret
      exact ⟨ret_bool (by rw [decide_eq_false H2.out]; simp), hb2⟩
set_option maxHeartbeats 2000000 in
theorem eqOutcome_self (a : Oc) (hl : bulkO a ≤ 1048576) (A : Option Addr) (c : Nat) (A2 : Option Addr) (c2 : Nat) (B : Option Addr) (d : Nat) (B2 : Option Addr) (d2 : Nat) (w : World) (hR : OcR w a A A2) (hR' : OcR w a B B2) :
    Calls Tryd.prog 11 #[ocV a A c A2 c2, ocV a B d B2 d2] w (BoolB true w) := by
  unfold ocV
  unfold bulkO at hl
  obtain ⟨U, V, hlt, hb⟩ := two4o w (.slice A a.said.length c) (.int .i64 a.en) (.int .i64 a.val) (.slice A2 a.cells.length c2) (.slice B a.said.length d) (.int .i64 a.en) (.int .i64 a.val) (.slice B2 a.cells.length d2) 27 27
  have E1 := fun W (h : Below w.heap.size w W) => eqIntS_any A a.said c B a.said d W (hR.1.on h) (hR'.1.on h) (by omega) (by omega)
  have E2 := fun W (h : Below w.heap.size w W) => eqIntS_any A2 a.cells c2 B2 a.cells d2 W (hR.2.on h) (hR'.2.on h) (by omega) (by omega)
  rw [decide_eq_true rfl] at E1 E2
  have E1 := fun W h => Lib.hid (E1 W h)
  have E2 := fun W h => Lib.hid (E2 W h)
  have HU := Lib.hid U
  have HV := Lib.hid V
  have q1 : (a.en != a.en) = false := by simp
  have q2 : (a.val != a.val) = false := by simp
  clear U V hR hR'
  go_enter Tryd.func11, Tryd.ntmps11
  go_wp2_with fail
  (with_reducible refine Calls.mono (E1 _ hb).out ?_)
  rintro ee w1 ⟨rfl, hb1⟩
  have U1 := HU.out.below hb1 (by omega)
  have V1 := HV.out.below hb1 (by omega)
  have hb2 := hb.trans (hb1.mono (by have := hb.size; omega))
  have a1 := U1 1 _ rfl
  have a2 := U1 2 _ rfl
  have a3 := U1 3 _ rfl
  have b1 := V1 1 _ rfl
  have b2 := V1 2 _ rfl
  have b3 := V1 3 _ rfl
  clear hb1 hb U1 V1 HU HV
  go_wp2_with fail
  (with_reducible refine Calls.mono (E2 _ hb2).out ?_)
  rintro ee w2 ⟨rfl, hb3⟩
  have hb4 := hb2.trans (hb3.mono hb2.size)
  clear hb3
  go_wp2_with fail
  go_ret
  exact ⟨rfl, hb4⟩
end Go.Proofs.YtkhcfhhejmkikaaDoor
