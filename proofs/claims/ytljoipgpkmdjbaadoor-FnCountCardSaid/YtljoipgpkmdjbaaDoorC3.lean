/-
  Numbers: what the model's and the program's readers of numbers return.
-/
import Derived.Test.YtljoipgpkmdjbaaDoorC2
import Derived.Test.YtljoipgpkmdjbaaDoorNum
namespace Go.Proofs.YtljoipgpkmdjbaaDoor
open Go.RowKit
set_option maxRecDepth 100000

set_option maxHeartbeats 400000 in
theorem l1In_any (n a b : Int) (w : World) :
    Calls Tryd.prog 47 #[.int .i64 n, .int .i64 a, .int .i64 b] w fun e w' => e = .returned (.bool (decide (a ≤ n ∧ n ≤ b))) ∧ w = w' := by
  by_cases h1 : a ≤ n
  · by_cases h2 : n ≤ b
    · go_enter Tryd.func47, Tryd.ntmps47
      go_wp2
      go_ret
      exact ⟨ret_bool (by simp [h1, h2]), rfl⟩
    · go_enter Tryd.func47, Tryd.ntmps47
      go_wp2
      go_ret
      exact ⟨ret_bool (by simp [h2]), rfl⟩
  · go_enter Tryd.func47, Tryd.ntmps47
    go_wp2
    go_ret
    exact ⟨ret_bool (by simp; omega), rfl⟩

/-- Two results: a number and a flag. -/
def NumRet (p : Int × Bool) (w : World) (e : Ending) (w' : World) : Prop := e = .returned (.tuple #[.int .i64 p.1, .bool p.2]) ∧ w = w'

set_option maxHeartbeats 1000000 in
theorem l30Num_pos (s : ByteArray) (w : World) (hs : s.size ≤ maxLen) (h0 : s.data.toList.head? ≠ some 45) :
    Calls Tryd.prog 46 #[.string s] w (NumRet (numEnd false s) w) := by
  unfold maxLen at hs
  by_cases hz : s.size = 0
  · rw [numEnd_no (.inl hz)]
    obtain rfl : s = ⟨#[]⟩ := by cases s with | mk d => simp [ByteArray.size] at hz; rw [hz]
    clear hz h0
    go_enter Tryd.func46, Tryd.ntmps46
    go_wp2
    go_ret2
    exact ⟨rfl, rfl⟩
  have hpos : 0 < s.size := by omega
  have hne : s[0] ≠ 45 := fun e => h0 (by rw [head_get hpos, e])
  have b45 : ((s[0].toNat : Int) == 45) = false := by
    rw [beq_eq_false_iff_ne]; intro e; apply hne; apply UInt8.toNat_inj.1
    show s[0].toNat = 45; omega
  clear hne h0
  by_cases hlong : 17 < s.size
  · rw [numEnd_no (.inr (.inl hlong))]
    have b0 : ((s.size : Int) == 0) = false := by rw [beq_eq_false_iff_ne]; omega
    clear hz
    go_enter Tryd.func46, Tryd.ntmps46
    go_wp2
    go_ret2
    exact ⟨rfl, rfl⟩
  have b0 : ((s.size : Int) == 0) = false := by rw [beq_eq_false_iff_ne]; omega
  clear hz
  by_cases h48 : s[0] = 48 ∧ 1 < s.size
  · rw [numEnd_no (.inr (.inr ⟨by rw [head_get hpos, h48.1], .inl h48.2⟩))]
    obtain ⟨e1, e2⟩ := h48
    have b48 : ((s[0].toNat : Int) == 48) = true := by rw [e1]; rfl
    clear e1
    go_enter Tryd.func46, Tryd.ntmps46
    go_wp2
    go_ret2
    exact ⟨rfl, rfl⟩
  have hgo : ¬ (s.size = 0 ∨ 17 < s.size ∨ (s.data.toList.head? = some 48 ∧ (1 < s.size ∨ false = true))) := by
    rintro (h | h | ⟨h, h' | h'⟩)
    · omega
    · omega
    · rw [head_get hpos] at h; exact h48 ⟨by simpa using h, h'⟩
    · cases h'
  have HGO := Lib.hid hgo
  clear hgo
  have hcase : ((s[0].toNat : Int) == 48) = false ∨ (((s[0].toNat : Int) == 48) = true ∧ s.size ≤ 1) := by
    by_cases e : s[0] = 48
    · right; exact ⟨by rw [e]; rfl, Nat.not_lt.1 (fun h => h48 ⟨e, h⟩)⟩
    · left; rw [beq_eq_false_iff_ne]; intro e'; apply e; apply UInt8.toNat_inj.1; show s[0].toNat = 48; omega
  clear h48
  rcases hcase with b48 | ⟨b48, hone⟩
  all_goals
    go_enter Tryd.func46, Tryd.ntmps46
    go_wp2
    go_loop [5, 6] (fun n i => ∃ k : Nat, k ≤ s.size ∧ i = .int .i64 k ∧ n = .int .i64 (valTo s k) ∧ digTo s k) (fun _ i => s.size - (intOf i).toNat)
    case atStart => exact ⟨0, Nat.zero_le _, rfl, rfl, rfl⟩
    case round =>
      obtain ⟨k, hk, rfl, rfl, hd⟩ := hrel
      have hv := valTo_lt hd hk (by omega)
      by_cases hlt : k < s.size
      · have hb := (s[k]).toNat_lt
        by_cases hdig : 48 ≤ s[k].toNat ∧ s[k].toNat ≤ 57
        · have HD := Lib.hid (digTo_succ hd hlt hdig)
          have HV := Lib.hid (valTo_succ hlt)
          obtain ⟨g1, g2⟩ := hdig
          clear hd
          go_wp2
          go_round
          case rel => exact ⟨k + 1, by omega, by go_num, by rw [HV.out]; go_num, HD.out⟩
          case measure => simp only [intOf]; omega
        · have HD := Lib.hid (not_dig hlt hdig)
          clear hd
          have hor : s[k].toNat < 48 ∨ (48 ≤ s[k].toNat ∧ 57 < s[k].toNat) := by omega
          clear hdig
          rcases hor with g1 | ⟨g1, g2⟩
          all_goals
            go_wp2
            go_ret2
            rw [numEnd_bad HD.out]
            exact ⟨rfl, rfl⟩
      · obtain rfl : k = s.size := by omega
        have HD := Lib.hid (digTo_end hd)
        have HV := Lib.hid (valTo_end s)
        clear hd
        go_wp2
        go_ret2
        rw [numEnd_yes HGO.out HD.out, HV.out]
        exact ⟨rfl, rfl⟩

theorem extract_size (s : ByteArray) (h : 0 < s.size) : (s.extract 1 s.size).size = s.size - 1 := by
  rw [ByteArray.size_extract]; omega
set_option maxHeartbeats 1000000 in
theorem l30Num_neg (s : ByteArray) (w : World) (hs : s.size ≤ maxLen) (h0 : s.data.toList.head? = some 45) :
    Calls Tryd.prog 46 #[.string s] w (NumRet (numEnd true (s.extract 1 s.size)) w) := by
  unfold maxLen at hs
  have hpos : 0 < s.size := by
    by_cases e : s.size = 0
    · exfalso
      have : s.data.toList = [] := List.length_eq_zero_iff.1 (by simpa using e)
      rw [this] at h0; cases h0
    · omega
  have b45 : ((s[0].toNat : Int) == 45) = true := by
    have : s[0] = 45 := by rw [head_get hpos] at h0; simpa using h0
    rw [this]; rfl
  clear h0
  have hes := extract_size s hpos
  generalize hr : s.extract 1 s.size = r at *
  have hrs : r.size ≤ s.size := by omega
  clear hes
  by_cases hz : r.size = 0
  · rw [numEnd_no (.inl hz)]
    have b0 : ((r.size : Int) == 0) = true := by rw [beq_iff_eq]; omega
    clear hz
    go_enter Tryd.func46, Tryd.ntmps46
    go_wp2
    go_ret2
    exact ⟨rfl, rfl⟩
  have b0 : ((r.size : Int) == 0) = false := by rw [beq_eq_false_iff_ne]; omega
  have hr0 : 0 < r.size := by omega
  clear hz
  by_cases hlong : 17 < r.size
  · rw [numEnd_no (.inr (.inl hlong))]
    go_enter Tryd.func46, Tryd.ntmps46
    go_wp2
    go_ret2
    exact ⟨rfl, rfl⟩
  have hlong' : r.size ≤ 17 := by omega
  by_cases h48 : r[0] = 48
  · rw [numEnd_no (.inr (.inr ⟨by rw [head_get hr0, h48], .inr rfl⟩))]
    have b48 : ((r[0].toNat : Int) == 48) = true := by rw [h48]; rfl
    clear h48 hlong
    have hor : 1 < r.size ∨ r.size ≤ 1 := by omega
    rcases hor with hor | hor
    all_goals
      go_enter Tryd.func46, Tryd.ntmps46
      go_wp2
      go_ret2
      exact ⟨rfl, rfl⟩
  have b48 : ((r[0].toNat : Int) == 48) = false := by
    rw [beq_eq_false_iff_ne]; intro e; apply h48; apply UInt8.toNat_inj.1; show r[0].toNat = 48; omega
  have hgo : ¬ (r.size = 0 ∨ 17 < r.size ∨ (r.data.toList.head? = some 48 ∧ (1 < r.size ∨ true = true))) := by
    rintro (h | h | ⟨h, _⟩)
    · omega
    · omega
    · rw [head_get hr0] at h; exact h48 (by simpa using h)
  have HGO := Lib.hid hgo
  clear h48 hgo hlong
  go_enter Tryd.func46, Tryd.ntmps46
  go_wp2
  clear b48 b0 hr b45
  go_loop [5, 6] (fun n i => ∃ k : Nat, k ≤ r.size ∧ i = .int .i64 k ∧ n = .int .i64 (valTo r k) ∧ digTo r k) (fun _ i => r.size - (intOf i).toNat)
  case atStart => exact ⟨0, Nat.zero_le _, rfl, rfl, rfl⟩
  case round =>
    obtain ⟨k, hk, rfl, rfl, hd⟩ := hrel
    have hv := valTo_lt hd hk (by omega)
    by_cases hlt : k < r.size
    · have hb := (r[k]).toNat_lt
      by_cases hdig : 48 ≤ r[k].toNat ∧ r[k].toNat ≤ 57
      · have HD := Lib.hid (digTo_succ hd hlt hdig)
        have HV := Lib.hid (valTo_succ hlt)
        obtain ⟨g1, g2⟩ := hdig
        clear hd
        go_wp2
        go_round
        case rel => exact ⟨k + 1, by omega, by go_num, by rw [HV.out]; go_num, HD.out⟩
        case measure => simp only [intOf]; omega
      · have HD := Lib.hid (not_dig hlt hdig)
        clear hd
        have hor : r[k].toNat < 48 ∨ (48 ≤ r[k].toNat ∧ 57 < r[k].toNat) := by omega
        clear hdig
        rcases hor with g1 | ⟨g1, g2⟩
        all_goals
          go_wp2
          go_ret2
          rw [numEnd_bad HD.out]
          exact ⟨rfl, rfl⟩
    · obtain rfl : k = r.size := by omega
      have HD := Lib.hid (digTo_end hd)
      have HV := Lib.hid (valTo_end r)
      clear hd
      go_wp2
      go_ret2
      rw [numEnd_yes (by have := HGO.out; simpa using this) HD.out]
      refine ⟨?_, rfl⟩
      rw [← HV.out]
      rfl
theorem l30Num_any (s : ByteArray) (w : World) (hs : s.size ≤ maxLen) :
    Calls Tryd.prog 46 #[.string s] w (NumRet (l30F s) w) := by
  unfold l30F
  by_cases h : s.data.toList.head? = some 45
  · rw [if_pos h]; exact l30Num_neg s w hs h
  · rw [if_neg h]; exact l30Num_pos s w hs h
end Go.Proofs.YtljoipgpkmdjbaaDoor
