/-
  DoIns of the model and of the program, and the law FnExactDoIns, walked.
-/
import Derived.Test.YtomhomnibikceaaZC
namespace Go.Proofs.Ytomhomnibikceaa
open Go.RowKit
set_option maxRecDepth 100000

theorem OwnB.cells {base : Nat} {w : World} {l : List Int} {v : Value} (h : OwnB base w l v) (hl : l ≠ []) : ∃ g cap, v = .slice (some ⟨g, 0, none⟩) l.length cap ∧ g < w.heap.size ∧ ∀ k, (hk : k < l.length) → w.cell? ⟨g, 0 + k, none⟩ = some (.int .u8 l[k]) := by
  have h' := h
  rcases h.2 with ⟨e, hn⟩ | ⟨g, cap, cur, e, hb, _⟩
  · exact absurd (by cases l with | nil => rfl | cons x xs => simp at hn) hl
  · subst e
    refine ⟨g, cap, rfl, (h'.lt g rfl).2, fun k hk => ?_⟩
    rw [Nat.zero_add, h'.cellAt k (by omega)]
    unfold bCs
    rw [List.getElem?_map, List.getElem?_eq_getElem hk]
    rfl
theorem zIn_any (n a b : Int) (w : World) :
    Calls Try.prog 7 #[.int .i64 n, .int .i64 a, .int .i64 b] w fun e w' => e = .returned (.bool (decide (a ≤ n ∧ n ≤ b))) ∧ w = w' := by
  by_cases h1 : a ≤ n
  · by_cases h2 : n ≤ b
    · go_enter Try.func7, Try.ntmps7
      go_wp2
      go_ret
      exact ⟨ret_bool (by simp [h1, h2]), rfl⟩
    · go_enter Try.func7, Try.ntmps7
      go_wp2
      go_ret
      exact ⟨ret_bool (by simp [h2]), rfl⟩
  · go_enter Try.func7, Try.ntmps7
    go_wp2
    go_ret
    exact ⟨ret_bool (by simp; omega), rfl⟩
/-- What DoIns answers. -/
def insV8 (op a b : Int) : Int := if (1 ≤ op ∧ op ≤ 10) ∧ (0 ≤ a ∧ a ≤ 255) ∧ (0 ≤ b ∧ b ≤ 255) then doV op a b else -1
def insE8 (op a b : Int) : Int := if (1 ≤ op ∧ op ≤ 10) ∧ (0 ≤ a ∧ a ≤ 255) ∧ (0 ≤ b ∧ b ≤ 255) then twoE op b else -1
theorem two_no {op a b : Int} {w : World} {f : FuncId} {args : Array Value} (h : Calls Try.prog f args w (Two .i64 (-1) (-1) w)) (hn : ¬ ((1 ≤ op ∧ op ≤ 10) ∧ (0 ≤ a ∧ a ≤ 255) ∧ (0 ≤ b ∧ b ≤ 255))) : Calls Try.prog f args w (Two .i64 (insV8 op a b) (insE8 op a b) w) := two_of h (by unfold insV8; rw [if_neg hn]) (by unfold insE8; rw [if_neg hn])
theorem l8Pure_any (op : Int) (w : World) :
    Calls Try.prog 6 #[.int .i64 op] w fun e w' => e = .returned (.bool (decide (1 ≤ op ∧ op ≤ 10))) ∧ w = w' := by
  have I := Lib.hid (zIn_any op 1 10 w)
  generalize decide (1 ≤ op ∧ op ≤ 10) = z at *
  go_enter Try.func6, Try.ntmps6
  go_wp2_with fail
  (with_reducible refine Calls.mono I.out ?_)
  rintro ee w1 ⟨rfl, rfl⟩
  go_wp2_with fail
  go_ret
  exact ⟨rfl, rfl⟩
set_option maxHeartbeats 1000000 in
theorem specDoIns_any (op a b : Int) (w : World) :
    Calls Try.prog 4 #[.int .i64 op, .int .i64 a, .int .i64 b] w (Two .i64 (insV8 op a b) (insE8 op a b) w) := by
  have I1 := l8Pure_any op w
  have I2 := zIn_any a 0 255 w
  have I3 := zIn_any b 0 255 w
  by_cases h1 : 1 ≤ op ∧ op ≤ 10
  · rw [decide_eq_true h1] at I1
    by_cases h2 : 0 ≤ a ∧ a ≤ 255
    · rw [decide_eq_true h2] at I2
      by_cases h3 : 0 ≤ b ∧ b ≤ 255
      · rw [decide_eq_true h3] at I3
        refine two_of (x := doV op a b) (y := twoE op b) ?_ (by unfold insV8; rw [if_pos ⟨h1, h2, h3⟩]) (by unfold insE8; rw [if_pos ⟨h1, h2, h3⟩])
        have C := specDo_any op a b w h1 h2 h3
        unfold Two at *
        generalize doV op a b = x at *
        generalize twoE op b = y at *
        replace I1 := Lib.hid I1
        replace I2 := Lib.hid I2
        replace I3 := Lib.hid I3
        replace C := Lib.hid C
        clear h1 h2 h3
        go_enter Try.func4, Try.ntmps4
        go_wp2_with fail
        (with_reducible refine Calls.mono I1.out ?_)
        rintro ee w1 ⟨rfl, rfl⟩
        go_wp2_with fail
        (with_reducible refine Calls.mono I2.out ?_)
        rintro ee w1 ⟨rfl, rfl⟩
        go_wp2_with fail
        (with_reducible refine Calls.mono I3.out ?_)
        rintro ee w1 ⟨rfl, rfl⟩
        go_wp2_with fail
        (with_reducible refine Calls.mono C.out ?_)
        rintro ee w1 ⟨rfl, rfl⟩
        go_wp2_with fail
        go_ret2
        exact ⟨rfl, rfl⟩
      · refine two_no ?_ (fun h => h3 h.2.2)
        rw [decide_eq_false h3] at I3
        unfold Two
        replace I1 := Lib.hid I1
        replace I2 := Lib.hid I2
        replace I3 := Lib.hid I3
        clear h1 h2 h3
        go_enter Try.func4, Try.ntmps4
        go_wp2_with fail
        (with_reducible refine Calls.mono I1.out ?_)
        rintro ee w1 ⟨rfl, rfl⟩
        go_wp2_with fail
        (with_reducible refine Calls.mono I2.out ?_)
        rintro ee w1 ⟨rfl, rfl⟩
        go_wp2_with fail
        (with_reducible refine Calls.mono I3.out ?_)
        rintro ee w1 ⟨rfl, rfl⟩
        go_wp2_with fail
        go_ret2
        exact ⟨rfl, rfl⟩
    · refine two_no ?_ (fun h => h2 h.2.1)
      rw [decide_eq_false h2] at I2
      unfold Two
      replace I1 := Lib.hid I1
      replace I2 := Lib.hid I2
      clear h1 h2 I3
      go_enter Try.func4, Try.ntmps4
      go_wp2_with fail
      (with_reducible refine Calls.mono I1.out ?_)
      rintro ee w1 ⟨rfl, rfl⟩
      go_wp2_with fail
      (with_reducible refine Calls.mono I2.out ?_)
      rintro ee w1 ⟨rfl, rfl⟩
      go_wp2_with fail
      go_ret2
      exact ⟨rfl, rfl⟩
  · refine two_no ?_ (fun h => h1 h.1)
    rw [decide_eq_false h1] at I1
    unfold Two
    replace I1 := Lib.hid I1
    clear h1 I2 I3
    go_enter Try.func4, Try.ntmps4
    go_wp2_with fail
    (with_reducible refine Calls.mono I1.out ?_)
    rintro ee w1 ⟨rfl, rfl⟩
    go_wp2_with fail
    go_ret2
    exact ⟨rfl, rfl⟩
/-- Two numbers are returned, and what was there stays. -/
def TwoB (x y : Int) (w : World) (e : Ending) (w' : World) : Prop := e = .returned (.tuple #[.int .i64 x, .int .i64 y]) ∧ Below w.heap.size w w'
theorem twoB_of {x x' y y' : Int} {w : World} {f : FuncId} {args : Array Value} (h : Calls Try.prog f args w (TwoB x y w)) (hx : x = x') (hy : y = y') : Calls Try.prog f args w (TwoB x' y' w) := by subst hx hy; exact h
theorem twoB_no {op a b : Int} {w : World} {f : FuncId} {args : Array Value} (h : Calls Try.prog f args w (TwoB (-1) (-1) w)) (hn : ¬ ((1 ≤ op ∧ op ≤ 10) ∧ (0 ≤ a ∧ a ≤ 255) ∧ (0 ≤ b ∧ b ≤ 255))) : Calls Try.prog f args w (TwoB (insV8 op a b) (insE8 op a b) w) := twoB_of h (by unfold insV8; rw [if_neg hn]) (by unfold insE8; rw [if_neg hn])
theorem bytes_two (a b : Int) : bytesB [a, b] = (byteB a && (byteB b && true)) := rfl
theorem byteB_yes {a : Int} (h : 0 ≤ a ∧ a ≤ 255) : byteB a = true := decide_eq_true h
theorem byteB_no {a : Int} (h : ¬ (0 ≤ a ∧ a ≤ 255)) : byteB a = false := decide_eq_false h
theorem nums_two (w : World) (a b : Int) (t : TypeId) : Nums (w.alloc (.cells #[.int .i64 a, .int .i64 b] t)) [a, b] (some ⟨w.heap.size, 0, none⟩) := by
  refine fun _ => ⟨_, _, rfl, by rw [World.size_alloc]; omega, fun k hk => ?_⟩
  rw [Nat.zero_add, alloc_cell]
  have : k = 0 ∨ k = 1 := by simp at hk; omega
  rcases this with rfl | rfl <;> rfl
set_option maxHeartbeats 2000000 in
theorem implDoIns_any (op a b : Int) (w : World) :
    Calls Try.prog 5 #[.int .i64 op, .int .i64 a, .int .i64 b] w (TwoB (insV8 op a b) (insE8 op a b) w) := by
  have hba := (Below.refl w.heap.size w).alloc (Nat.le_refl _) (.cells #[.int .i64 a, .int .i64 b] 3)
  have BO := Lib.hid (bytesOf_any [a, b] (by show 2 ≤ _; omega) _ 2 _ (nums_two w a b 3))
  by_cases hab : (0 ≤ a ∧ a ≤ 255) ∧ (0 ≤ b ∧ b ≤ 255)
  · have hB : bytesB [a, b] = true := by rw [bytes_two, byteB_yes hab.1, byteB_yes hab.2]; rfl
    have BO2 : Calls Try.prog 9 #[.slice (some ⟨w.heap.size, 0, none⟩) 2 2] (w.alloc (.cells #[.int .i64 a, .int .i64 b] 3)) fun e w' => ∃ g cap, e = .returned (.tuple #[.slice (some ⟨g, 0, none⟩) 2 cap, .bool true]) ∧ w'.cell? ⟨g, 0, none⟩ = some (.int .u8 a) ∧ w'.cell? ⟨g, 1, none⟩ = some (.int .u8 b) ∧ Below (w.alloc (.cells #[.int .i64 a, .int .i64 b] 3)).heap.size (w.alloc (.cells #[.int .i64 a, .int .i64 b] 3)) w' := by
      refine Calls.mono BO.out ?_
      rintro e w' ⟨h, hb⟩
      rw [hB] at h
      obtain ⟨v, rfl, ho⟩ := h
      obtain ⟨g, cap, rfl, hg, hc⟩ := ho.cells (by simp)
      exact ⟨g, cap, rfl, hc 0 (by show 0 < 2; omega), hc 1 (by show 1 < 2; omega), hb⟩
    replace BO2 := Lib.hid BO2
    clear BO hB
    by_cases h1 : 1 ≤ op
    · by_cases h2 : op ≤ 10
      · refine twoB_of (x := doV op a b) (y := twoE op b) ?_ (by unfold insV8; rw [if_pos ⟨⟨h1, h2⟩, hab⟩]) (by unfold insE8; rw [if_pos ⟨⟨h1, h2⟩, hab⟩])
        have C := fun W => Lib.hid (implIns_any op a b W ⟨h1, h2⟩ hab.1 hab.2)
        have hx : 0 ≤ doV op a b ∧ doV op a b ≤ 255 := by
          unfold doV twoV
          split
          · exact hab.1
          split
          · split <;> omega
          split
          · omega
          split
          · omega
          split
          · omega
          split
          · split <;> omega
          split
          · split <;> omega
          split
          · omega
          · rename_i hb
            split
            · refine ⟨Int.ediv_nonneg hab.1.1 hab.2.1, ?_⟩
              have := Int.ediv_le_self b hab.1.1
              omega
            · have h1 := Int.emod_nonneg a hb
              have h2 := Int.emod_lt_of_pos a (show 0 < b by omega)
              omega
        unfold Two at C
        unfold TwoB
        generalize doV op a b = x at *
        generalize twoE op b = y at *
        clear hab
        go_enter Try.func5, Try.ntmps5
        go_wp2_with fail
        (with_reducible refine Calls.mono BO2.out ?_)
        rintro ee w1 ⟨g, cap, rfl, c0, c1, hb1⟩
        have hb2 := hba.trans (hb1.mono hba.size)
        clear hba hb1 BO2
        go_wp2_with fail
        go_quiet (first | (go_at_call 10; exact Calls.quiet_of_same ((C _).out.mono fun _ _ h => ⟨h.1, h.2.symm⟩)))
        go_wp2_with fail
        go_ret2
        exact ⟨rfl, below_drewN hb2 _⟩
      · refine twoB_no ?_ (fun h => h2 h.1.2)
        unfold TwoB
        clear hab
        go_enter Try.func5, Try.ntmps5
        go_wp2_with fail
        (with_reducible refine Calls.mono BO2.out ?_)
        rintro ee w1 ⟨g, cap, rfl, c0, c1, hb1⟩
        have hb2 := hba.trans (hb1.mono hba.size)
        go_wp2_with fail
        go_ret2
        exact ⟨rfl, hb2⟩
    · refine twoB_no ?_ (fun h => h1 h.1.1)
      unfold TwoB
      clear hab
      go_enter Try.func5, Try.ntmps5
      go_wp2_with fail
      (with_reducible refine Calls.mono BO2.out ?_)
      rintro ee w1 ⟨g, cap, rfl, c0, c1, hb1⟩
      have hb2 := hba.trans (hb1.mono hba.size)
      go_wp2_with fail
      go_ret2
      exact ⟨rfl, hb2⟩
  · refine twoB_no ?_ (fun h => hab h.2)
    have hB : bytesB [a, b] = false := by
      rw [bytes_two]
      by_cases ha : 0 ≤ a ∧ a ≤ 255
      · rw [byteB_no (fun h => hab ⟨ha, h⟩)]; simp
      · rw [byteB_no ha]; rfl
    have BO2 : Calls Try.prog 9 #[.slice (some ⟨w.heap.size, 0, none⟩) 2 2] (w.alloc (.cells #[.int .i64 a, .int .i64 b] 3)) fun e w' => e = .returned (.tuple #[.slice none 0 0, .bool false]) ∧ Below (w.alloc (.cells #[.int .i64 a, .int .i64 b] 3)).heap.size (w.alloc (.cells #[.int .i64 a, .int .i64 b] 3)) w' := by
      refine Calls.mono BO.out ?_
      rintro e w' ⟨h, hb⟩
      rw [hB] at h
      exact ⟨h, hb⟩
    replace BO2 := Lib.hid BO2
    clear BO hB
    unfold TwoB
    clear hab
    go_enter Try.func5, Try.ntmps5
    go_wp2_with fail
    (with_reducible refine Calls.mono BO2.out ?_)
    rintro ee w1 ⟨rfl, hb1⟩
    have hb2 := hba.trans (hb1.mono hba.size)
    go_wp2_with fail
    go_ret2
    exact ⟨rfl, hb2⟩
set_option maxHeartbeats 1000000 in
theorem fnExactDoIns_walk (op a b : Int) (w : World) :
    Calls Try.prog 3 #[.int .i64 op, .int .i64 a, .int .i64 b] w fun ee w' => ee = .returned (.bool true) ∧ Below w.heap.size w w' := by
  have S := Lib.hid (specDoIns_any op a b w)
  have I := Lib.hid (implDoIns_any op a b w)
  unfold Two at S
  unfold TwoB at I
  generalize insV8 op a b = x at *
  generalize insE8 op a b = y at *
  have q1 : (x != x) = false := by simp
  have q2 : (y != y) = false := by simp
  go_enter Try.func3, Try.ntmps3
  go_wp2_with fail
  (with_reducible refine Calls.mono S.out ?_)
  rintro ee w1 ⟨rfl, rfl⟩
  go_wp2_with fail
  (with_reducible refine Calls.mono I.out ?_)
  rintro ee w2 ⟨rfl, hb⟩
  go_wp2_with fail
  go_ret
  exact ⟨rfl, hb⟩
end Go.Proofs.Ytomhomnibikceaa
