/-
  Two rows of numbers compared by the program and by the model; two blocks made one after the other.
-/
import Derived.Test.YtjiimcbfniknoaaNC
import Derived.Test.YtjiimcbfniknoaaOX
namespace Go.Proofs.Ytjiimcbfniknoaa
open Go.RowKit
set_option maxRecDepth 100000

set_option maxHeartbeats 1000000 in
theorem equalInts_any (A : Option Addr) (xs : List Int) (cap : Nat) (A' : Option Addr) (ys : List Int) (cap' : Nat) (w : World) (hW : Ints w w.heap.size A xs) (hW' : Ints w w.heap.size A' ys) (hn : xs.length ≤ 140737488351232) (hn' : ys.length ≤ 140737488351232) :
    Calls Try.prog 74 #[.slice A xs.length cap, .slice A' ys.length cap'] w fun e w' => e = .returned (.bool (decide (xs = ys))) ∧ Below w.heap.size w w' := by
  by_cases hl : xs.length = ys.length
  · have e1 : ((xs.length : Int) == (ys.length : Int)) = true := by rw [beq_iff_eq]; omega
    have e2 : ((xs.length : Int) != (ys.length : Int)) = false := by rw [bne, e1]; rfl
    have HL := Lib.hid hl; clear hl
    go_enter Try.func74, Try.ntmps74
    go_wp2
    clear e1 e2
    go_loopw [13] (fun i wr => ∃ (k : Nat), k ≤ xs.length ∧ i = .int .i64 k ∧ (∀ j, (h : j < xs.length) → (h' : j < ys.length) → j < k → xs[j] = ys[j]) ∧ Below w.heap.size w wr) (fun i _ => xs.length - (intOf i).toNat)
    case atStart => exact ⟨0, Nat.zero_le _, rfl, fun j _ _ hj => absurd hj (by omega), Below.refl _ _⟩
    case round =>
      obtain ⟨k, hk, rfl, hall, hb⟩ := hrel
      by_cases hlt : k < xs.length
      · have hlt' : k < ys.length := by have := HL.out; omega
        obtain ⟨b, o, rfl, hB, hc1⟩ := (hW.below hb).at_ hlt
        obtain ⟨b', o', rfl, hB', hc1'⟩ := (hW'.below hb).at_ hlt'
        have HA := Lib.hid hall; clear hall
        generalize hs0 : xs[k] = x at *
        generalize hs1 : ys[k] = y at *
        have HS := Lib.hid hs0; clear hs0
        have HS' := Lib.hid hs1; clear hs1
        by_cases hx : x = y
        · have e1 : (x == y) = true := by rw [beq_iff_eq]; exact hx
          have e2 : (x != y) = false := by rw [bne, e1]; rfl
          have HX := Lib.hid hx
          clear hx
          go_wp2
          go_quiet (fail)
          all_goals
            have hb2 := below_drewN hb nq
            go_wp2
            go_roundw
            case rel => exact ⟨k + 1, by omega, by go_num, fun j h1 h2 hjk => by
              by_cases e : j = k
              · subst e; exact (HS.out.trans HX.out).trans HS'.out.symm
              · exact HA.out j h1 h2 (by omega), hb2⟩
            case measure => simp only [intOf]; omega
        · have e1 : (x == y) = false := by rw [beq_eq_false_iff_ne]; exact hx
          have e2 : (x != y) = true := by rw [bne, e1]; rfl
          have HX := Lib.hid (show xs ≠ ys by rintro rfl; exact hx (HS.out.symm.trans HS'.out))
          clear hx
          go_wp2
          go_quiet (fail)
          all_goals
            have hb2 := below_drewN hb nq
            go_wp2
            go_ret
            exact ⟨ret_bool (by simp [HX.out]), hb2⟩
      · obtain rfl : k = xs.length := by omega
        go_wp2
        go_ret
        refine ⟨ret_bool ?_, hb⟩
        rw [eq_comm, decide_eq_true_eq]
        exact List.ext_getElem HL.out (fun j h1 h2 => hall j h1 h2 h1)
  · have e1 : ((xs.length : Int) == (ys.length : Int)) = false := by rw [beq_eq_false_iff_ne]; omega
    have e2 : ((xs.length : Int) != (ys.length : Int)) = true := by rw [bne, e1]; rfl
    have HL := Lib.hid hl; clear hl
    go_enter Try.func74, Try.ntmps74
    go_wp2
    go_ret
    refine ⟨ret_bool ?_, Below.refl _ _⟩
    rw [eq_comm, decide_eq_false_iff_not]
    rintro rfl
    exact HL.out rfl

/-- In the words of chapter 7. -/
theorem equalNums_any (ks ls : List Int) (A B : Option Addr) (c d : Nat) (w : World) (hA : NumS w (Lt w.heap.size) ks A) (hB : NumS w (Lt w.heap.size) ls B) (hn : ks.length ≤ 2000000) (hn' : ls.length ≤ 2000000) :
    Calls Try.prog 74 #[.slice A ks.length c, .slice B ls.length d] w (BoolB (decide (ks = ls)) w) :=
  equalInts_any A ks c B ls d w hA.ints hB.ints (by omega) (by omega)
theorem l5Nums_any (ks ls : List Int) (A B : Option Addr) (c d : Nat) (w : World) (hA : NumS w (Lt w.heap.size) ks A) (hB : NumS w (Lt w.heap.size) ls B) (hn : ks.length ≤ 2000000) (hn' : ls.length ≤ 2000000) :
    Calls Try.prog 73 #[.slice A ks.length c, .slice B ls.length d] w (BoolB (decide (ks = ls)) w) :=
  l5Ints_any A ks c B ls d w hA.ints hB.ints (by omega) (by omega)
/-- Two boxes made one after the other. -/
theorem two_new (w : World) (us vs : List Value) (t t' : TypeId) :
    BoxV ((w.alloc (.cells us.toArray t)).alloc (.cells vs.toArray t')) w.heap.size us ∧ BoxV ((w.alloc (.cells us.toArray t)).alloc (.cells vs.toArray t')) (w.heap.size + 1) vs ∧ Below w.heap.size w ((w.alloc (.cells us.toArray t)).alloc (.cells vs.toArray t')) := by
  have s1 : (w.alloc (.cells us.toArray t)).heap.size = w.heap.size + 1 := World.size_alloc _ _
  have hal := (Below.refl _ (w.alloc (.cells us.toArray t))).alloc (Nat.le_refl _) (.cells vs.toArray t')
  refine ⟨(BoxV.new w us t).below hal (by omega), ?_, two_boxes w _ _⟩
  have := BoxV.new (w.alloc (.cells us.toArray t)) vs t'
  rw [s1] at this
  exact this
end Go.Proofs.Ytjiimcbfniknoaa
