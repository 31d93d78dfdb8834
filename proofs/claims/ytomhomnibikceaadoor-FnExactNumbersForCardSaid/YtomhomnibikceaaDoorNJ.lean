/-
  Registers and lists of them: what both sides answer.
-/
import Derived.Test.YtomhomnibikceaaDoorNI
import Derived.Test.YtomhomnibikceaaDoorNC
namespace Go.Proofs.YtomhomnibikceaaDoor
open Go.RowKit
set_option maxRecDepth 100000

set_option maxHeartbeats 1000000 in
theorem hasReg_any (c : Cd) (A : Option Addr) (cap : Nat) (r : Int) (w : World) : Calls Tryd.prog 93 #[cdv c A cap, .int .i64 r] w (BoolB (regB c r) w) := by
  unfold regB cdv
  obtain ⟨p, g, bs⟩ := c
  dsimp only
  have hb : Below w.heap.size w (w.alloc (.cells #[.int .i64 p, .int .i64 g, .slice A bs.length cap] 44)) := (Below.refl _ _).alloc (Nat.le_refl _) _
  by_cases h0 : 0 ≤ r
  · by_cases h1 : r < g
    · rw [decide_eq_true ⟨h0, h1⟩]
      go_enter Tryd.func93, Tryd.ntmps93
      go_wp2_with fail
      go_ret
      exact ⟨rfl, hb⟩
    · rw [decide_eq_false (fun h => h1 h.2)]
      go_enter Tryd.func93, Tryd.ntmps93
      go_wp2_with fail
      go_ret
      exact ⟨rfl, hb⟩
  · rw [decide_eq_false (fun h => h0 h.1)]
    go_enter Tryd.func93, Tryd.ntmps93
    go_wp2_with fail
    go_ret
    exact ⟨rfl, hb⟩
set_option maxHeartbeats 1000000 in
theorem nextFits_any (c : Cd) (A : Option Addr) (cap : Nat) (n : Int) (g : Nat) (w : World) (hg : BoxV w g [.int .i64 c.params, .int .i64 c.regs, .slice A c.blocks.length cap]) (_ : g < w.heap.size) :
    Calls Tryd.prog 95 #[.int .i64 n, .pointer (some ⟨g, 0, none⟩)] w (BoolB (nextB c n) w) := by
  unfold nextB
  have c2 := hg 2 _ rfl
  clear hg
  by_cases h0 : 1 ≤ n
  · by_cases h1 : n < c.blocks.length
    · rw [decide_eq_true ⟨h0, h1⟩]
      generalize c.blocks.length = m at *
      go_enter Tryd.func95, Tryd.ntmps95
      go_wp2_with fail
      go_ret
      exact ⟨rfl, Below.refl _ _⟩
    · rw [decide_eq_false (fun h => h1 h.2)]
      generalize c.blocks.length = m at *
      go_enter Tryd.func95, Tryd.ntmps95
      go_wp2_with fail
      go_ret
      exact ⟨rfl, Below.refl _ _⟩
  · rw [decide_eq_false (fun h => h0 h.1)]
    generalize c.blocks.length = m at *
    go_enter Tryd.func95, Tryd.ntmps95
    go_wp2_with fail
    go_ret
    exact ⟨rfl, Below.refl _ _⟩

set_option maxHeartbeats 2000000 in
theorem allRegs_any (c : Cd) (l : List Int) (hn : l.length ≤ 1048576) (A : Option Addr) (cap : Nat) (B : Option Addr) (bc : Nat) (w : World) (hR : NumS w (Lt w.heap.size) l A) :
    Calls Tryd.prog 94 #[.slice A l.length cap, .func (.func 93) #[cdv c B bc] #[]] w (BoolB (l.all (regB c)) w) := by
  have HR := Lib.hid hR
  clear hR
  have CK := fun W (h : Below w.heap.size w W) r => hasReg_any c B bc r W
  unfold cdv at *
  generalize hP : regB c = P at *
  clear hP
  go_enter Tryd.func94, Tryd.ntmps94
  go_wp2_with fail
  go_loopw [9] (fun i wr => ∃ (k : Nat), k ≤ l.length ∧ i = .int .i64 k ∧ (∀ j, (h : j < l.length) → j < k → P l[j] = true) ∧ Below w.heap.size w wr) (fun i _ => l.length - (intOf i).toNat)
  case atStart => exact ⟨0, Nat.zero_le _, rfl, fun j _ hj => absurd hj (by omega), Below.refl _ _⟩
  case round =>
    obtain ⟨k, hk, rfl, hall, hb⟩ := hrel
    have HA := Lib.hid hall
    clear hall
    have hbs := hb.size
    by_cases hlt : k < l.length
    · obtain ⟨b, o, rfl, hB, c0⟩ := (HR.out.on hb hbs).at_ hlt
      generalize hkd : l[k] = r at *
      have CK1 := CK wr hb r
      have HN := Lib.hid (show P r = false → l.all P = false from fun h => all_no hlt (by rw [hkd]; exact h))
      have HS := Lib.hid (show P r = true → ∀ j, (h : j < l.length) → j < k + 1 → P l[j] = true from fun h j hj hjk => by
        by_cases e : j = k
        · subst e; rw [hkd]; exact h
        · exact HA.out j hj (by omega))
      clear hkd HA
      generalize P r = z at *
      clear CK
      cases z
      · replace CK1 := Lib.hid CK1
        go_wp2_with (go_at_call 93; (with_reducible refine Calls.mono CK1.out ?_); rintro ee w2 ⟨rfl, hb2⟩; have hb3 := hb.trans (hb2.mono hbs))
        go_ret
        exact ⟨ret_bool' (HN.out (by trivial)).symm, hb3⟩
      · replace CK1 := Lib.hid CK1
        go_wp2_with (go_at_call 93; (with_reducible refine Calls.mono CK1.out ?_); rintro ee w2 ⟨rfl, hb2⟩; have hb3 := hb.trans (hb2.mono hbs))
        go_roundw
        case rel => exact ⟨k + 1, by omega, by go_num, HS.out (by trivial), hb3⟩
        case measure => simp only [intOf]; omega
    · obtain rfl : k = l.length := by omega
      have HV := Lib.hid (show l.all P = true from all_yes fun i hi => HA.out i hi hi)
      go_wp2_with fail
      go_ret
      exact ⟨ret_bool' HV.out.symm, hb⟩

set_option maxHeartbeats 2000000 in
theorem allNext_any (c : Cd) (l : List Int) (hn : l.length ≤ 1048576) (A : Option Addr) (cap : Nat) (B : Option Addr) (bc : Nat) (w : World) (hR : NumS w (Lt w.heap.size) l A) (g : Nat) (hg : BoxV w g [.int .i64 c.params, .int .i64 c.regs, .slice B c.blocks.length bc]) (hlg : g < w.heap.size) :
    Calls Tryd.prog 94 #[.slice A l.length cap, .func (.func 95) #[] #[.pointer (some ⟨g, 0, none⟩)]] w (BoolB (l.all (nextB c)) w) := by
  have HR := Lib.hid hR
  clear hR
  have CK := fun W (h : Below w.heap.size w W) r => nextFits_any c B bc r g W (hg.below h hlg) (Nat.lt_of_lt_of_le hlg h.size)
  unfold cdv at *
  generalize hP : nextB c = P at *
  clear hP
  go_enter Tryd.func94, Tryd.ntmps94
  go_wp2_with fail
  go_loopw [9] (fun i wr => ∃ (k : Nat), k ≤ l.length ∧ i = .int .i64 k ∧ (∀ j, (h : j < l.length) → j < k → P l[j] = true) ∧ Below w.heap.size w wr) (fun i _ => l.length - (intOf i).toNat)
  case atStart => exact ⟨0, Nat.zero_le _, rfl, fun j _ hj => absurd hj (by omega), Below.refl _ _⟩
  case round =>
    obtain ⟨k, hk, rfl, hall, hb⟩ := hrel
    have HA := Lib.hid hall
    clear hall
    have hbs := hb.size
    by_cases hlt : k < l.length
    · obtain ⟨b, o, rfl, hB, c0⟩ := (HR.out.on hb hbs).at_ hlt
      generalize hkd : l[k] = r at *
      have CK1 := CK wr hb r
      have HN := Lib.hid (show P r = false → l.all P = false from fun h => all_no hlt (by rw [hkd]; exact h))
      have HS := Lib.hid (show P r = true → ∀ j, (h : j < l.length) → j < k + 1 → P l[j] = true from fun h j hj hjk => by
        by_cases e : j = k
        · subst e; rw [hkd]; exact h
        · exact HA.out j hj (by omega))
      clear hkd HA
      generalize P r = z at *
      clear CK
      cases z
      · replace CK1 := Lib.hid CK1
        go_wp2_with (go_at_call 95; (with_reducible refine Calls.mono CK1.out ?_); rintro ee w2 ⟨rfl, hb2⟩; have hb3 := hb.trans (hb2.mono hbs))
        go_ret
        exact ⟨ret_bool' (HN.out (by trivial)).symm, hb3⟩
      · replace CK1 := Lib.hid CK1
        go_wp2_with (go_at_call 95; (with_reducible refine Calls.mono CK1.out ?_); rintro ee w2 ⟨rfl, hb2⟩; have hb3 := hb.trans (hb2.mono hbs))
        go_roundw
        case rel => exact ⟨k + 1, by omega, by go_num, HS.out (by trivial), hb3⟩
        case measure => simp only [intOf]; omega
    · obtain rfl : k = l.length := by omega
      have HV := Lib.hid (show l.all P = true from all_yes fun i hi => HA.out i hi hi)
      go_wp2_with fail
      go_ret
      exact ⟨ret_bool' HV.out.symm, hb⟩

set_option maxHeartbeats 1000000 in
theorem mostN_any (op : Int) (k : Nat) (hk : k ≤ 1048576) (w : World) : Calls Tryd.prog 99 #[.int .i64 op, .int .i64 k] w fun e w' => e = .returned (.int .i64 (mostI k op)) ∧ w = w' := by
  unfold mostI
  by_cases h1 : op = 1
  · subst h1
    rw [if_pos rfl]
    go_enter Tryd.func99, Tryd.ntmps99
    go_wp2_with fail
    go_ret
    exact ⟨rfl, rfl⟩
  · rw [if_neg h1]
    have q1 := beq_no h1
    by_cases h2 : op = 14
    · subst h2
      rw [if_pos rfl]
      go_enter Tryd.func99, Tryd.ntmps99
      go_wp2_with fail
      go_ret
      exact ⟨rfl, rfl⟩
    · rw [if_neg h2]
      have q2 := beq_no h2
      go_enter Tryd.func99, Tryd.ntmps99
      go_wp2_with fail
      go_ret
      exact ⟨rfl, rfl⟩

theorem argsOf_eq (op : Int) (h1 : 1 ≤ op) (h2 : op ≤ 13) : (if op = 1 then (0 : Int) else if op = 2 ∨ op = 10 ∨ op = 11 ∨ op = 13 then 1 else 2) = iArgs op := by
  obtain ⟨k, rfl⟩ := Int.eq_ofNat_of_zero_le (show 0 ≤ op by omega)
  have h : k = 1 ∨ k = 2 ∨ k = 3 ∨ k = 4 ∨ k = 5 ∨ k = 6 ∨ k = 7 ∨ k = 8 ∨ k = 9 ∨ k = 10 ∨ k = 11 ∨ k = 12 ∨ k = 13 := by omega
  rcases h with rfl | rfl | rfl | rfl | rfl | rfl | rfl | rfl | rfl | rfl | rfl | rfl | rfl <;> rfl
set_option maxHeartbeats 2000000 in
theorem l7Args_any (op : Int) (h1 : 1 ≤ op) (h2 : op ≤ 13) (w : World) : Calls Tryd.prog 91 #[.int .i64 op] w fun e w' => e = .returned (.int .i64 (iArgs op)) ∧ w = w' := by
  rw [← argsOf_eq op h1 h2]
  have CI := uIn_any op 3 9
  by_cases e1 : op = 1
  · subst e1
    rw [if_pos rfl]
    clear CI
    go_enter Tryd.func91, Tryd.ntmps91
    go_wp2_with fail
    go_ret
    exact ⟨rfl, rfl⟩
  rw [if_neg e1]
  have q1 := beq_no e1
  by_cases e2 : op = 2
  · subst e2
    rw [if_pos (by omega)]
    clear CI
    go_enter Tryd.func91, Tryd.ntmps91
    go_wp2_with fail
    go_ret
    exact ⟨rfl, rfl⟩
  have q2 := beq_no e2
  by_cases e3 : op = 10
  · subst e3
    rw [if_pos (by omega)]
    clear CI
    go_enter Tryd.func91, Tryd.ntmps91
    go_wp2_with fail
    go_ret
    exact ⟨rfl, rfl⟩
  have q3 := beq_no e3
  by_cases e4 : op = 11
  · subst e4
    rw [if_pos (by omega)]
    clear CI
    go_enter Tryd.func91, Tryd.ntmps91
    go_wp2_with fail
    go_ret
    exact ⟨rfl, rfl⟩
  have q4 := beq_no e4
  by_cases e5 : op = 13
  · subst e5
    rw [if_pos (by omega)]
    clear CI
    go_enter Tryd.func91, Tryd.ntmps91
    go_wp2_with fail
    go_ret
    exact ⟨rfl, rfl⟩
  have q5 := beq_no e5
  rw [if_neg (by omega)]
  by_cases e6 : op = 12
  · subst e6
    replace CI := fun w => Lib.hid (CI w)
    go_enter Tryd.func91, Tryd.ntmps91
    go_wp2_with (go_at_call 42; (with_reducible refine Calls.mono (CI _).out ?_); rintro ee w1 ⟨rfl, rfl⟩)
    go_ret
    exact ⟨rfl, rfl⟩
  · rw [show decide (3 ≤ op ∧ op ≤ 9) = true by rw [decide_eq_true_eq]; omega] at CI
    replace CI := fun w => Lib.hid (CI w)
    go_enter Tryd.func91, Tryd.ntmps91
    go_wp2_with (go_at_call 42; (with_reducible refine Calls.mono (CI _).out ?_); rintro ee w1 ⟨rfl, rfl⟩)
    go_ret
    exact ⟨rfl, rfl⟩

theorem uInB_any (n a b : Int) (w : World) : Calls Tryd.prog 42 #[.int .i64 n, .int .i64 a, .int .i64 b] w (BoolB (decide (a ≤ n ∧ n ≤ b)) w) := by
  refine Calls.mono (uIn_any n a b w) ?_
  rintro ee w1 ⟨rfl, rfl⟩
  exact ⟨rfl, Below.refl _ _⟩
theorem regB_in (c : Cd) (r : Int) : regB c r = decide (0 ≤ r ∧ r ≤ c.regs - 1) := by
  unfold regB
  by_cases h : 0 ≤ r ∧ r < c.regs
  · rw [decide_eq_true h, decide_eq_true (by omega)]
  · rw [decide_eq_false h, decide_eq_false (by omega)]
set_option maxHeartbeats 2000000 in
theorem l7Regs_any (c : Cd) (A : Option Addr) (cap : Nat) (l : List Int) (hn : l.length ≤ 1048576) (B : Option Addr) (bc : Nat) (w : World) (hR : NumS w (Lt w.heap.size) l B) (hg0 : 0 ≤ c.regs) (hg1 : c.regs ≤ 300) :
    Calls Tryd.prog 67 #[cdv c A cap, .slice B l.length bc] w (BoolB (regsB c l) w) := by
  have HR := Lib.hid hR
  clear hR
  have CI := fun r => uInB_any r 0 (c.regs - 1)
  unfold regsB
  have HP := Lib.hid (show ∀ r, decide (0 ≤ r ∧ r ≤ c.regs - 1) = regB c r from fun r => (regB_in c r).symm)
  generalize hP : regB c = P at *
  clear hP
  unfold cdv
  obtain ⟨p, g, bs⟩ := c
  dsimp only at *
  have K0 := Lib.hid (BoxV.new w [.int .i64 p, .int .i64 g, .slice A bs.length cap] 44)
  have hb0 : Below w.heap.size w (w.alloc (.cells #[.int .i64 p, .int .i64 g, .slice A bs.length cap] 44)) := (Below.refl _ _).alloc (Nat.le_refl _) _
  have hl0 : w.heap.size < (w.alloc (.cells #[.int .i64 p, .int .i64 g, .slice A bs.length cap] 44)).heap.size := by rw [World.size_alloc]; omega
  go_enter Tryd.func67, Tryd.ntmps67
  go_wp2_with fail
  have e0 : w.alloc (.cells [.int .i64 p, .int .i64 g, .slice A bs.length cap].toArray 44) = w.alloc (.cells #[.int .i64 p, .int .i64 g, .slice A bs.length cap] 44) := rfl
  rw [e0] at K0
  clear e0
  generalize w.alloc (.cells #[.int .i64 p, .int .i64 g, .slice A bs.length cap] 44) = wa at *
  go_loopw [5] (fun i wr => ∃ (k : Nat), k ≤ l.length ∧ i = .int .i64 k ∧ (∀ j, (h : j < l.length) → j < k → P l[j] = true) ∧ Below wa.heap.size wa wr) (fun i _ => l.length - (intOf i).toNat)
  case atStart => exact ⟨0, Nat.zero_le _, rfl, fun j _ hj => absurd hj (by omega), Below.refl _ _⟩
  case round =>
    obtain ⟨k, hk, rfl, hall, hb1⟩ := hrel
    have HA := Lib.hid hall
    clear hall
    have hb := hb0.trans (hb1.mono (Nat.le_of_lt hl0))
    have hbs := hb.size
    have k1 := K0.out.below hb1 hl0 1 _ rfl
    have hlr := Nat.lt_of_lt_of_le hl0 hb1.size
    have hwr : IntKind.i64.wrap (g - 1) = g - 1 := IntWalk.i64_in _ ⟨by omega, by omega⟩
    by_cases hlt : k < l.length
    · obtain ⟨b, o, rfl, hB, c0⟩ := (HR.out.on hb hbs).at_ hlt
      generalize hkd : l[k] = r at *
      have CK1 := CI r
      rw [HP.out] at CK1
      have HN := Lib.hid (show P r = false → l.all P = false from fun h => all_no hlt (by rw [hkd]; exact h))
      have HS := Lib.hid (show P r = true → ∀ j, (h : j < l.length) → j < k + 1 → P l[j] = true from fun h j hj hjk => by
        by_cases e : j = k
        · subst e; rw [hkd]; exact h
        · exact HA.out j hj (by omega))
      clear hkd HA CI
      generalize P r = z at *
      cases z
      · replace CK1 := fun w => Lib.hid (CK1 w)
        go_wp2_with fail
        go_region_held3 (fun u => u.cell? ⟨b, o + k, none⟩ = some (.int .i64 r) ∧ u.cell? ⟨w.heap.size, 1, none⟩ = some (.int .i64 g)) (go_keep)
          (first | (go_at_call 42; (with_reducible refine Calls.mono (CK1 _).out ?_); rintro ee w2 ⟨rfl, hb2⟩; have m0 := (hb2.cell (p := ⟨b, o + k, none⟩) hB).trans c0; have m1 := (hb2.cell (p := ⟨w.heap.size, 1, none⟩) hlr).trans k1))
        all_goals
          have hb3 := hb.drew.trans (hb2.mono hbs)
          go_wp2_with fail
          go_ret
          exact ⟨ret_bool' (HN.out (by trivial)).symm, hb3⟩
      · replace CK1 := fun w => Lib.hid (CK1 w)
        go_wp2_with fail
        go_region_held3 (fun u => u.cell? ⟨b, o + k, none⟩ = some (.int .i64 r) ∧ u.cell? ⟨w.heap.size, 1, none⟩ = some (.int .i64 g)) (go_keep)
          (first | (go_at_call 42; (with_reducible refine Calls.mono (CK1 _).out ?_); rintro ee w2 ⟨rfl, hb2⟩; have m0 := (hb2.cell (p := ⟨b, o + k, none⟩) hB).trans c0; have m1 := (hb2.cell (p := ⟨w.heap.size, 1, none⟩) hlr).trans k1))
        all_goals
          have hb3 := hb1.drew.trans (hb2.mono hb1.size)
          go_wp2_with fail
          go_roundw
          case rel => exact ⟨k + 1, by omega, by go_num, HS.out (by trivial), hb3⟩
          case measure => simp only [intOf]; omega
    · obtain rfl : k = l.length := by omega
      have HV := Lib.hid (show l.all P = true from all_yes fun i hi => HA.out i hi hi)
      go_wp2_with fail
      go_ret
      exact ⟨ret_bool' HV.out.symm, hb⟩

end Go.Proofs.YtomhomnibikceaaDoor
