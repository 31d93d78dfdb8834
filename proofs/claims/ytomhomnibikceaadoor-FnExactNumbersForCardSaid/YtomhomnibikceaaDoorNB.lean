/-
  What the laws' own helpers do with units: how much they hold.
-/
import Derived.Test.YtomhomnibikceaaDoorNA
import Derived.Test.YtomhomnibikceaaDoorOA
import Derived.Test.YtomhomnibikceaaDoorG2
namespace Go.Proofs.YtomhomnibikceaaDoor
open Go.RowKit
set_option maxRecDepth 100000

theorem szR_zero {r : Int} {b : Nat} (h : ¬ r < b) : szR r b = r - b := if_neg h
set_option maxHeartbeats 2000000 in
theorem szPhi_any (x : Ph) (hm : SmPh x) (v : Value) (w : World) (left : Int) (hV : PhV w (Lt w.heap.size) x v) (h0 : 0 ≤ left) (h1 : left ≤ 1048576) :
    Calls Tryd.prog 126 #[v, .int .i64 left] w (IntB (szR left (bulkPh x)) w) := by
  obtain ⟨A1, c1, rfl, r1⟩ := hV
  have m1 := hm
  clear hm
  unfold SmPh at m1
  obtain ⟨f0, f1⟩ := x
  dsimp only at *
  have HK := Lib.hid (show bulkPh ⟨f0, f1⟩ = f1.length from rfl)
  generalize bulkPh ⟨f0, f1⟩ = bk at *
  have K0 := Lib.hid (BoxV.new w [.int .i64 f0, .slice A1 f1.length c1] 166)
  have hlt : w.heap.size < (w.alloc (.cells #[.int .i64 f0, .slice A1 f1.length c1] 166)).heap.size := by rw [World.size_alloc]; omega
  have hb : Below w.heap.size w (w.alloc (.cells #[.int .i64 f0, .slice A1 f1.length c1] 166)) := (Below.refl _ _).alloc (Nat.le_refl _) _
  unfold maxLen at m1
  have C1 := fun W (_ : Below w.heap.size w W) r h0 h1 => Lib.hid (szIntS_any A1 f1.length c1 r W h0 h1 (by omega))
  clear r1 m1
  have D1 := fun W hh => Lib.hid (C1 W hh (left) (by omega) (by omega)).out
  clear C1
  by_cases e0 : left < f1.length
  · rw [szR_lt e0] at D1
    have HN := Lib.hid e0
    clear e0
    go_enter Tryd.func126, Tryd.ntmps126
    go_wp2_with fail
    (with_reducible refine Calls.mono (D1 _ hb).out ?_)
    rintro ee w1 ⟨rfl, hc1⟩
    have hb1 := hb.trans (hc1.mono (Nat.le_of_lt hlt))
    clear hc1
    go_wp2_with fail
    go_ret
    exact ⟨ret_int' (by rw [HK.out, szR_lt (by have := HN.out; omega)]), hb1⟩
  rw [szR_ge e0] at D1
  have g0 : (0 : Int) ≤ left - f1.length := by omega
  clear e0
  have HN := Lib.hid (show szR left (f1.length) = left - f1.length by have h := szR_ge (r := left) (b := f1.length) (by omega); omega)
  go_enter Tryd.func126, Tryd.ntmps126
  go_wp2_with fail
  (with_reducible refine Calls.mono (D1 _ hb).out ?_)
  rintro ee w1 ⟨rfl, hc1⟩
  have hb1 := hb.trans (hc1.mono (Nat.le_of_lt hlt))
  clear hc1
  go_wp2_with fail
  go_ret
  exact ⟨ret_int' (by rw [HK.out]; exact HN.out.symm), hb1⟩
set_option maxHeartbeats 2000000 in
theorem szPhiS_any (ks : List Ph) (hm : SmR SmPh ks) (A : Option Addr) (cap : Nat) (w : World) (left : Int) (hR : PhS w (Lt w.heap.size) ks A) (h0 : 0 ≤ left) (h1 : left ≤ 1048576) :
    Calls Tryd.prog 111 #[.slice A ks.length cap, .int .i64 left] w (IntB (szR left (bulkR bulkPh ks)) w) := by
  obtain ⟨hl, hm⟩ := hm
  unfold maxLen at hl
  have HK := Lib.hid fun i (h : i < ks.length) => szPhi_any _ (hm _ (List.getElem_mem h))
  have HR := Lib.hid hR
  clear hR hm
  by_cases hneg : left < ks.length
  · have HN := Lib.hid hneg
    have hneg' : left - ks.length < 0 := by omega
    go_enter Tryd.func111, Tryd.ntmps111
    go_wp2_with fail
    go_ret
    exact ⟨ret_int' (by unfold szR; have h1 := length_le_bulkR bulkPh ks; rw [if_pos (by have := HN.out; omega)]), Below.refl _ _⟩
  · have hge : (ks.length : Int) ≤ left := by omega
    clear hneg
    go_enter Tryd.func111, Tryd.ntmps111
    go_wp2_with fail
    go_loopw [1, 5] (fun v i wr => ∃ (k : Nat) (r : Int), k ≤ ks.length ∧ i = .int .i64 k ∧ v = .int .i64 r ∧ 0 ≤ r ∧ r ≤ 1048576 ∧ r + bulkR bulkPh (ks.take k) = left - ks.length + k ∧ Below w.heap.size w wr) (fun _ i _ => ks.length - (intOf i).toNat)
    case atStart => exact ⟨0, _, Nat.zero_le _, rfl, rfl, by omega, by omega, by rw [List.take_zero]; show _ + ((0 : Nat) : Int) = _; omega, Below.refl _ _⟩
    case round =>
      obtain ⟨k, r, hk, rfl, rfl, hr0, hr1, hre, hb⟩ := hrel
      have HE := Lib.hid hre
      clear hre
      have hbs := hb.size
      by_cases hlt : k < ks.length
      · have HT := Lib.hid (bulkR_take (f := bulkPh) hlt)
        have HQ := Lib.hid (bulkR_rest bulkPh ks (k + 1))
        obtain ⟨b, o, rfl, hB, d0, ⟨A1, c1, d1, r1⟩⟩ := (HR.out.on hb hbs).at_ hlt
        have CK := HK.out k hlt _ wr r ⟨A1, c1, rfl, r1⟩ hr0 hr1
        clear r1
        generalize hkd : ks[k] = kid at *
        have HKD := Lib.hid hkd
        clear hkd
        obtain ⟨f0, f1⟩ := kid
        dsimp only at d0 d1 CK
        generalize bulkPh ⟨f0, f1⟩ = bk at *
        by_cases hlb : r < bk
        · have e1 : szR r bk = -1 := if_pos hlb
          rw [e1] at CK
          have HL := Lib.hid hlb
          replace CK := Lib.hid CK
          clear e1 hlb
          go_wp2_with ((go_at_call 126; (with_reducible refine Calls.mono CK.out ?_); rintro ee w2 ⟨rfl, hb2⟩; have hb3 := hb.trans (hb2.mono hbs)))
          go_ret
          exact ⟨ret_int' (by unfold szR; rw [if_pos (by have := HL.out; have := HT.out; have := HQ.out; have := HE.out; omega)]), hb3⟩
        · have e1 : szR r bk = r - bk := if_neg hlb
          rw [e1] at CK
          have hge2 : (0 : Int) ≤ r - bk := by omega
          replace CK := Lib.hid CK
          clear e1 hlb
          go_wp2_with ((go_at_call 126; (with_reducible refine Calls.mono CK.out ?_); rintro ee w2 ⟨rfl, hb2⟩; have hb3 := hb.trans (hb2.mono hbs)))
          go_roundw
          case rel => exact ⟨k + 1, r - bk, by omega, by go_num, rfl, by omega, by omega, by rw [HT.out]; have := HE.out; omega, hb3⟩
          case measure => simp only [intOf]; omega
      · obtain rfl : k = ks.length := by omega
        have e2 : ks.take ks.length = ks := List.take_length
        go_wp2
        go_ret
        exact ⟨ret_int' (by unfold szR; have h3 := HE.out; rw [e2] at h3; rw [if_neg (by omega)]; omega), hb⟩
set_option maxHeartbeats 2000000 in
theorem szIns_any (x : Ik) (hm : SmIk x) (v : Value) (w : World) (left : Int) (hV : IkV w (Lt w.heap.size) x v) (h0 : 0 ≤ left) (h1 : left ≤ 1048576) :
    Calls Tryd.prog 127 #[v, .int .i64 left] w (IntB (szR left (bulkIk x)) w) := by
  obtain ⟨A2, c2, rfl, r2⟩ := hV
  have m2 := hm
  clear hm
  unfold SmIk at m2
  obtain ⟨f0, f1, f2, f3⟩ := x
  dsimp only at *
  have HK := Lib.hid (show bulkIk ⟨f0, f1, f2, f3⟩ = f2.length from rfl)
  generalize bulkIk ⟨f0, f1, f2, f3⟩ = bk at *
  have K0 := Lib.hid (BoxV.new w [.int .i64 f0, .int .i64 f1, .slice A2 f2.length c2, .int .i64 f3] 168)
  have hlt : w.heap.size < (w.alloc (.cells #[.int .i64 f0, .int .i64 f1, .slice A2 f2.length c2, .int .i64 f3] 168)).heap.size := by rw [World.size_alloc]; omega
  have hb : Below w.heap.size w (w.alloc (.cells #[.int .i64 f0, .int .i64 f1, .slice A2 f2.length c2, .int .i64 f3] 168)) := (Below.refl _ _).alloc (Nat.le_refl _) _
  unfold maxLen at m2
  have C2 := fun W (_ : Below w.heap.size w W) r h0 h1 => Lib.hid (szIntS_any A2 f2.length c2 r W h0 h1 (by omega))
  clear r2 m2
  have D2 := fun W hh => Lib.hid (C2 W hh (left) (by omega) (by omega)).out
  clear C2
  by_cases e0 : left < f2.length
  · rw [szR_lt e0] at D2
    have HN := Lib.hid e0
    clear e0
    go_enter Tryd.func127, Tryd.ntmps127
    go_wp2_with fail
    (with_reducible refine Calls.mono (D2 _ hb).out ?_)
    rintro ee w1 ⟨rfl, hc1⟩
    have hb1 := hb.trans (hc1.mono (Nat.le_of_lt hlt))
    clear hc1
    go_wp2_with fail
    go_ret
    exact ⟨ret_int' (by rw [HK.out, szR_lt (by have := HN.out; omega)]), hb1⟩
  rw [szR_ge e0] at D2
  have g0 : (0 : Int) ≤ left - f2.length := by omega
  clear e0
  have HN := Lib.hid (show szR left (f2.length) = left - f2.length by have h := szR_ge (r := left) (b := f2.length) (by omega); omega)
  go_enter Tryd.func127, Tryd.ntmps127
  go_wp2_with fail
  (with_reducible refine Calls.mono (D2 _ hb).out ?_)
  rintro ee w1 ⟨rfl, hc1⟩
  have hb1 := hb.trans (hc1.mono (Nat.le_of_lt hlt))
  clear hc1
  go_wp2_with fail
  go_ret
  exact ⟨ret_int' (by rw [HK.out]; exact HN.out.symm), hb1⟩
set_option maxHeartbeats 2000000 in
theorem szInsS_any (ks : List Ik) (hm : SmR SmIk ks) (A : Option Addr) (cap : Nat) (w : World) (left : Int) (hR : IkS w (Lt w.heap.size) ks A) (h0 : 0 ≤ left) (h1 : left ≤ 1048576) :
    Calls Tryd.prog 112 #[.slice A ks.length cap, .int .i64 left] w (IntB (szR left (bulkR bulkIk ks)) w) := by
  obtain ⟨hl, hm⟩ := hm
  unfold maxLen at hl
  have HK := Lib.hid fun i (h : i < ks.length) => szIns_any _ (hm _ (List.getElem_mem h))
  have HR := Lib.hid hR
  clear hR hm
  by_cases hneg : left < ks.length
  · have HN := Lib.hid hneg
    have hneg' : left - ks.length < 0 := by omega
    go_enter Tryd.func112, Tryd.ntmps112
    go_wp2_with fail
    go_ret
    exact ⟨ret_int' (by unfold szR; have h1 := length_le_bulkR bulkIk ks; rw [if_pos (by have := HN.out; omega)]), Below.refl _ _⟩
  · have hge : (ks.length : Int) ≤ left := by omega
    clear hneg
    go_enter Tryd.func112, Tryd.ntmps112
    go_wp2_with fail
    go_loopw [1, 5] (fun v i wr => ∃ (k : Nat) (r : Int), k ≤ ks.length ∧ i = .int .i64 k ∧ v = .int .i64 r ∧ 0 ≤ r ∧ r ≤ 1048576 ∧ r + bulkR bulkIk (ks.take k) = left - ks.length + k ∧ Below w.heap.size w wr) (fun _ i _ => ks.length - (intOf i).toNat)
    case atStart => exact ⟨0, _, Nat.zero_le _, rfl, rfl, by omega, by omega, by rw [List.take_zero]; show _ + ((0 : Nat) : Int) = _; omega, Below.refl _ _⟩
    case round =>
      obtain ⟨k, r, hk, rfl, rfl, hr0, hr1, hre, hb⟩ := hrel
      have HE := Lib.hid hre
      clear hre
      have hbs := hb.size
      by_cases hlt : k < ks.length
      · have HT := Lib.hid (bulkR_take (f := bulkIk) hlt)
        have HQ := Lib.hid (bulkR_rest bulkIk ks (k + 1))
        obtain ⟨b, o, rfl, hB, d0, d1, ⟨A2, c2, d2, r2⟩, d3⟩ := (HR.out.on hb hbs).at_ hlt
        have CK := HK.out k hlt _ wr r ⟨A2, c2, rfl, r2⟩ hr0 hr1
        clear r2
        generalize hkd : ks[k] = kid at *
        have HKD := Lib.hid hkd
        clear hkd
        obtain ⟨f0, f1, f2, f3⟩ := kid
        dsimp only at d0 d1 d2 d3 CK
        generalize bulkIk ⟨f0, f1, f2, f3⟩ = bk at *
        by_cases hlb : r < bk
        · have e1 : szR r bk = -1 := if_pos hlb
          rw [e1] at CK
          have HL := Lib.hid hlb
          replace CK := Lib.hid CK
          clear e1 hlb
          go_wp2_with ((go_at_call 127; (with_reducible refine Calls.mono CK.out ?_); rintro ee w2 ⟨rfl, hb2⟩; have hb3 := hb.trans (hb2.mono hbs)))
          go_ret
          exact ⟨ret_int' (by unfold szR; rw [if_pos (by have := HL.out; have := HT.out; have := HQ.out; have := HE.out; omega)]), hb3⟩
        · have e1 : szR r bk = r - bk := if_neg hlb
          rw [e1] at CK
          have hge2 : (0 : Int) ≤ r - bk := by omega
          replace CK := Lib.hid CK
          clear e1 hlb
          go_wp2_with ((go_at_call 127; (with_reducible refine Calls.mono CK.out ?_); rintro ee w2 ⟨rfl, hb2⟩; have hb3 := hb.trans (hb2.mono hbs)))
          go_roundw
          case rel => exact ⟨k + 1, r - bk, by omega, by go_num, rfl, by omega, by omega, by rw [HT.out]; have := HE.out; omega, hb3⟩
          case measure => simp only [intOf]; omega
      · obtain rfl : k = ks.length := by omega
        have e2 : ks.take ks.length = ks := List.take_length
        go_wp2
        go_ret
        exact ⟨ret_int' (by unfold szR; have h3 := HE.out; rw [e2] at h3; rw [if_neg (by omega)]; omega), hb⟩
set_option maxHeartbeats 2000000 in
theorem szBlock_any (x : Bk) (hm : SmBk x) (v : Value) (w : World) (left : Int) (hV : BkV w (Lt w.heap.size) x v) (h0 : 0 ≤ left) (h1 : left ≤ 1048576) :
    Calls Tryd.prog 90 #[v, .int .i64 left] w (IntB (szR left (bulkBk x)) w) := by
  obtain ⟨A0, c0, A1, c1, A4, c4, rfl, r0, r1, r4⟩ := hV
  obtain ⟨m0, m1, m4⟩ := hm
  obtain ⟨f0, f1, f2, f3, f4⟩ := x
  dsimp only at *
  have HK := Lib.hid (show bulkBk ⟨f0, f1, f2, f3, f4⟩ = bulkR bulkPh f0 + bulkR bulkIk f1 + f4.length from rfl)
  generalize bulkBk ⟨f0, f1, f2, f3, f4⟩ = bk at *
  have K0 := Lib.hid (BoxV.new w [.slice A0 f0.length c0, .slice A1 f1.length c1, .int .i64 f2, .int .i64 f3, .slice A4 f4.length c4] 132)
  have hlt : w.heap.size < (w.alloc (.cells #[.slice A0 f0.length c0, .slice A1 f1.length c1, .int .i64 f2, .int .i64 f3, .slice A4 f4.length c4] 132)).heap.size := by rw [World.size_alloc]; omega
  have hb : Below w.heap.size w (w.alloc (.cells #[.slice A0 f0.length c0, .slice A1 f1.length c1, .int .i64 f2, .int .i64 f3, .slice A4 f4.length c4] 132)) := (Below.refl _ _).alloc (Nat.le_refl _) _
  have C0 := fun W hh r h0 h1 => Lib.hid (szPhiS_any f0 m0 A0 c0 W r (r0.on (w' := W) (B' := W.heap.size) hh hh.size) h0 h1)
  have C1 := fun W hh r h0 h1 => Lib.hid (szInsS_any f1 m1 A1 c1 W r (r1.on (w' := W) (B' := W.heap.size) hh hh.size) h0 h1)
  unfold maxLen at m4
  have C4 := fun W (_ : Below w.heap.size w W) r h0 h1 => Lib.hid (szIntS_any A4 f4.length c4 r W h0 h1 (by omega))
  clear r0 m0 r1 m1 r4 m4
  generalize bulkR bulkPh f0 = b0 at *
  generalize bulkR bulkIk f1 = b1 at *
  have D0 := fun W hh => Lib.hid (C0 W hh (left) (by omega) (by omega)).out
  clear C0
  by_cases e0 : left < b0
  · rw [szR_lt e0] at D0
    have HN := Lib.hid e0
    clear e0 C1 C4
    go_enter Tryd.func90, Tryd.ntmps90
    go_wp2_with fail
    (with_reducible refine Calls.mono (D0 _ hb).out ?_)
    rintro ee w1 ⟨rfl, hc1⟩
    have hb1 := hb.trans (hc1.mono (Nat.le_of_lt hlt))
    clear hc1
    go_wp2_with fail
    go_ret
    exact ⟨ret_int' (by rw [HK.out, szR_lt (by have := HN.out; omega)]), hb1⟩
  rw [szR_ge e0] at D0
  have g0 : (0 : Int) ≤ left - b0 := by omega
  clear e0
  have D1 := fun W hh => Lib.hid (C1 W hh (left - b0) (by omega) (by omega)).out
  clear C1
  by_cases e1 : left - b0 < b1
  · rw [szR_lt e1] at D1
    have HN := Lib.hid e1
    clear e1 C4
    go_enter Tryd.func90, Tryd.ntmps90
    go_wp2_with fail
    (with_reducible refine Calls.mono (D0 _ hb).out ?_)
    rintro ee w1 ⟨rfl, hc1⟩
    have hb1 := hb.trans (hc1.mono (Nat.le_of_lt hlt))
    have K1 := Lib.hid (K0.out.below hc1 hlt)
    have hl1 := Nat.lt_of_lt_of_le hlt hc1.size
    have k1 := K1.out 1 _ rfl
    clear hc1
    go_wp2_with fail
    (with_reducible refine Calls.mono (D1 _ hb1).out ?_)
    rintro ee w2 ⟨rfl, hc2⟩
    have hb2 := hb1.trans (hc2.mono (hb1.size))
    clear hc2
    go_wp2_with fail
    go_ret
    exact ⟨ret_int' (by rw [HK.out, szR_lt (by have := HN.out; omega)]), hb2⟩
  rw [szR_ge e1] at D1
  have g1 : (0 : Int) ≤ left - b0 - b1 := by omega
  clear e1
  have D4 := fun W hh => Lib.hid (C4 W hh (left - b0 - b1) (by omega) (by omega)).out
  clear C4
  by_cases e2 : left - b0 - b1 < f4.length
  · rw [szR_lt e2] at D4
    have HN := Lib.hid e2
    clear e2
    go_enter Tryd.func90, Tryd.ntmps90
    go_wp2_with fail
    (with_reducible refine Calls.mono (D0 _ hb).out ?_)
    rintro ee w1 ⟨rfl, hc1⟩
    have hb1 := hb.trans (hc1.mono (Nat.le_of_lt hlt))
    have K1 := Lib.hid (K0.out.below hc1 hlt)
    have hl1 := Nat.lt_of_lt_of_le hlt hc1.size
    have k1 := K1.out 1 _ rfl
    clear hc1
    go_wp2_with fail
    (with_reducible refine Calls.mono (D1 _ hb1).out ?_)
    rintro ee w2 ⟨rfl, hc2⟩
    have hb2 := hb1.trans (hc2.mono (hb1.size))
    have K2 := Lib.hid (K1.out.below hc2 hl1)
    have hl2 := Nat.lt_of_lt_of_le hl1 hc2.size
    have k4 := K2.out 4 _ rfl
    clear hc2
    go_wp2_with fail
    (with_reducible refine Calls.mono (D4 _ hb2).out ?_)
    rintro ee w3 ⟨rfl, hc3⟩
    have hb3 := hb2.trans (hc3.mono (hb2.size))
    clear hc3
    go_wp2_with fail
    go_ret
    exact ⟨ret_int' (by rw [HK.out, szR_lt (by have := HN.out; omega)]), hb3⟩
  rw [szR_ge e2] at D4
  have g2 : (0 : Int) ≤ left - b0 - b1 - f4.length := by omega
  clear e2
  have HN := Lib.hid (show szR left (b0 + b1 + f4.length) = left - b0 - b1 - f4.length by have h := szR_ge (r := left) (b := b0 + b1 + f4.length) (by omega); omega)
  go_enter Tryd.func90, Tryd.ntmps90
  go_wp2_with fail
  (with_reducible refine Calls.mono (D0 _ hb).out ?_)
  rintro ee w1 ⟨rfl, hc1⟩
  have hb1 := hb.trans (hc1.mono (Nat.le_of_lt hlt))
  have K1 := Lib.hid (K0.out.below hc1 hlt)
  have hl1 := Nat.lt_of_lt_of_le hlt hc1.size
  have k1 := K1.out 1 _ rfl
  clear hc1
  go_wp2_with fail
  (with_reducible refine Calls.mono (D1 _ hb1).out ?_)
  rintro ee w2 ⟨rfl, hc2⟩
  have hb2 := hb1.trans (hc2.mono (hb1.size))
  have K2 := Lib.hid (K1.out.below hc2 hl1)
  have hl2 := Nat.lt_of_lt_of_le hl1 hc2.size
  have k4 := K2.out 4 _ rfl
  clear hc2
  go_wp2_with fail
  (with_reducible refine Calls.mono (D4 _ hb2).out ?_)
  rintro ee w3 ⟨rfl, hc3⟩
  have hb3 := hb2.trans (hc3.mono (hb2.size))
  clear hc3
  go_wp2_with fail
  go_ret
  exact ⟨ret_int' (by rw [HK.out]; exact HN.out.symm), hb3⟩
set_option maxHeartbeats 2000000 in
theorem szBlockS_any (ks : List Bk) (hm : SmR SmBk ks) (A : Option Addr) (cap : Nat) (w : World) (left : Int) (hR : BkS w (Lt w.heap.size) ks A) (h0 : 0 ≤ left) (h1 : left ≤ 1048576) :
    Calls Tryd.prog 64 #[.slice A ks.length cap, .int .i64 left] w (IntB (szR left (bulkR bulkBk ks)) w) := by
  obtain ⟨hl, hm⟩ := hm
  unfold maxLen at hl
  have HK := Lib.hid fun i (h : i < ks.length) => szBlock_any _ (hm _ (List.getElem_mem h))
  have HR := Lib.hid hR
  clear hR hm
  by_cases hneg : left < ks.length
  · have HN := Lib.hid hneg
    have hneg' : left - ks.length < 0 := by omega
    go_enter Tryd.func64, Tryd.ntmps64
    go_wp2_with fail
    go_ret
    exact ⟨ret_int' (by unfold szR; have h1 := length_le_bulkR bulkBk ks; rw [if_pos (by have := HN.out; omega)]), Below.refl _ _⟩
  · have hge : (ks.length : Int) ≤ left := by omega
    clear hneg
    go_enter Tryd.func64, Tryd.ntmps64
    go_wp2_with fail
    go_loopw [1, 5] (fun v i wr => ∃ (k : Nat) (r : Int), k ≤ ks.length ∧ i = .int .i64 k ∧ v = .int .i64 r ∧ 0 ≤ r ∧ r ≤ 1048576 ∧ r + bulkR bulkBk (ks.take k) = left - ks.length + k ∧ Below w.heap.size w wr) (fun _ i _ => ks.length - (intOf i).toNat)
    case atStart => exact ⟨0, _, Nat.zero_le _, rfl, rfl, by omega, by omega, by rw [List.take_zero]; show _ + ((0 : Nat) : Int) = _; omega, Below.refl _ _⟩
    case round =>
      obtain ⟨k, r, hk, rfl, rfl, hr0, hr1, hre, hb⟩ := hrel
      have HE := Lib.hid hre
      clear hre
      have hbs := hb.size
      by_cases hlt : k < ks.length
      · have HT := Lib.hid (bulkR_take (f := bulkBk) hlt)
        have HQ := Lib.hid (bulkR_rest bulkBk ks (k + 1))
        obtain ⟨b, o, rfl, hB, ⟨A0, c0, d0, r0⟩, ⟨A1, c1, d1, r1⟩, d2, d3, ⟨A4, c4, d4, r4⟩⟩ := (HR.out.on hb hbs).at_ hlt
        have CK := HK.out k hlt _ wr r ⟨A0, c0, A1, c1, A4, c4, rfl, r0, r1, r4⟩ hr0 hr1
        clear r0 r1 r4
        generalize hkd : ks[k] = kid at *
        have HKD := Lib.hid hkd
        clear hkd
        obtain ⟨f0, f1, f2, f3, f4⟩ := kid
        dsimp only at d0 d1 d2 d3 d4 CK
        generalize bulkBk ⟨f0, f1, f2, f3, f4⟩ = bk at *
        by_cases hlb : r < bk
        · have e1 : szR r bk = -1 := if_pos hlb
          rw [e1] at CK
          have HL := Lib.hid hlb
          replace CK := Lib.hid CK
          clear e1 hlb
          go_wp2_with ((go_at_call 90; (with_reducible refine Calls.mono CK.out ?_); rintro ee w2 ⟨rfl, hb2⟩; have hb3 := hb.trans (hb2.mono hbs)))
          go_ret
          exact ⟨ret_int' (by unfold szR; rw [if_pos (by have := HL.out; have := HT.out; have := HQ.out; have := HE.out; omega)]), hb3⟩
        · have e1 : szR r bk = r - bk := if_neg hlb
          rw [e1] at CK
          have hge2 : (0 : Int) ≤ r - bk := by omega
          replace CK := Lib.hid CK
          clear e1 hlb
          go_wp2_with ((go_at_call 90; (with_reducible refine Calls.mono CK.out ?_); rintro ee w2 ⟨rfl, hb2⟩; have hb3 := hb.trans (hb2.mono hbs)))
          go_roundw
          case rel => exact ⟨k + 1, r - bk, by omega, by go_num, rfl, by omega, by omega, by rw [HT.out]; have := HE.out; omega, hb3⟩
          case measure => simp only [intOf]; omega
      · obtain rfl : k = ks.length := by omega
        have e2 : ks.take ks.length = ks := List.take_length
        go_wp2
        go_ret
        exact ⟨ret_int' (by unfold szR; have h3 := HE.out; rw [e2] at h3; rw [if_neg (by omega)]; omega), hb⟩
set_option maxHeartbeats 2000000 in
theorem szCode_any (x : Cd) (hm : SmCd x) (v : Value) (w : World) (left : Int) (hV : CdV w (Lt w.heap.size) x v) (h0 : 0 ≤ left) (h1 : left ≤ 1048576) :
    Calls Tryd.prog 41 #[v, .int .i64 left] w (IntB (szR left (bulkCd x)) w) := by
  obtain ⟨A2, c2, rfl, r2⟩ := hV
  have m2 := hm
  clear hm
  unfold SmCd at m2
  obtain ⟨f0, f1, f2⟩ := x
  dsimp only at *
  have HK := Lib.hid (show bulkCd ⟨f0, f1, f2⟩ = bulkR bulkBk f2 from rfl)
  generalize bulkCd ⟨f0, f1, f2⟩ = bk at *
  have K0 := Lib.hid (BoxV.new w [.int .i64 f0, .int .i64 f1, .slice A2 f2.length c2] 75)
  have hlt : w.heap.size < (w.alloc (.cells #[.int .i64 f0, .int .i64 f1, .slice A2 f2.length c2] 75)).heap.size := by rw [World.size_alloc]; omega
  have hb : Below w.heap.size w (w.alloc (.cells #[.int .i64 f0, .int .i64 f1, .slice A2 f2.length c2] 75)) := (Below.refl _ _).alloc (Nat.le_refl _) _
  have C2 := fun W hh r h0 h1 => Lib.hid (szBlockS_any f2 m2 A2 c2 W r (r2.on (w' := W) (B' := W.heap.size) hh hh.size) h0 h1)
  clear r2 m2
  generalize bulkR bulkBk f2 = b2 at *
  have D2 := fun W hh => Lib.hid (C2 W hh (left) (by omega) (by omega)).out
  clear C2
  by_cases e0 : left < b2
  · rw [szR_lt e0] at D2
    have HN := Lib.hid e0
    clear e0
    go_enter Tryd.func41, Tryd.ntmps41
    go_wp2_with fail
    (with_reducible refine Calls.mono (D2 _ hb).out ?_)
    rintro ee w1 ⟨rfl, hc1⟩
    have hb1 := hb.trans (hc1.mono (Nat.le_of_lt hlt))
    clear hc1
    go_wp2_with fail
    go_ret
    exact ⟨ret_int' (by rw [HK.out, szR_lt (by have := HN.out; omega)]), hb1⟩
  rw [szR_ge e0] at D2
  have g0 : (0 : Int) ≤ left - b2 := by omega
  clear e0
  have HN := Lib.hid (show szR left (b2) = left - b2 by have h := szR_ge (r := left) (b := b2) (by omega); omega)
  go_enter Tryd.func41, Tryd.ntmps41
  go_wp2_with fail
  (with_reducible refine Calls.mono (D2 _ hb).out ?_)
  rintro ee w1 ⟨rfl, hc1⟩
  have hb1 := hb.trans (hc1.mono (Nat.le_of_lt hlt))
  clear hc1
  go_wp2_with fail
  go_ret
  exact ⟨ret_int' (by rw [HK.out]; exact HN.out.symm), hb1⟩
set_option maxHeartbeats 2000000 in
theorem szCodeS_any (ks : List Cd) (hm : SmR SmCd ks) (A : Option Addr) (cap : Nat) (w : World) (left : Int) (hR : CdS w (Lt w.heap.size) ks A) (h0 : 0 ≤ left) (h1 : left ≤ 1048576) :
    Calls Tryd.prog 20 #[.slice A ks.length cap, .int .i64 left] w (IntB (szR left (bulkR bulkCd ks)) w) := by
  obtain ⟨hl, hm⟩ := hm
  unfold maxLen at hl
  have HK := Lib.hid fun i (h : i < ks.length) => szCode_any _ (hm _ (List.getElem_mem h))
  have HR := Lib.hid hR
  clear hR hm
  by_cases hneg : left < ks.length
  · have HN := Lib.hid hneg
    have hneg' : left - ks.length < 0 := by omega
    go_enter Tryd.func20, Tryd.ntmps20
    go_wp2_with fail
    go_ret
    exact ⟨ret_int' (by unfold szR; have h1 := length_le_bulkR bulkCd ks; rw [if_pos (by have := HN.out; omega)]), Below.refl _ _⟩
  · have hge : (ks.length : Int) ≤ left := by omega
    clear hneg
    go_enter Tryd.func20, Tryd.ntmps20
    go_wp2_with fail
    go_loopw [1, 5] (fun v i wr => ∃ (k : Nat) (r : Int), k ≤ ks.length ∧ i = .int .i64 k ∧ v = .int .i64 r ∧ 0 ≤ r ∧ r ≤ 1048576 ∧ r + bulkR bulkCd (ks.take k) = left - ks.length + k ∧ Below w.heap.size w wr) (fun _ i _ => ks.length - (intOf i).toNat)
    case atStart => exact ⟨0, _, Nat.zero_le _, rfl, rfl, by omega, by omega, by rw [List.take_zero]; show _ + ((0 : Nat) : Int) = _; omega, Below.refl _ _⟩
    case round =>
      obtain ⟨k, r, hk, rfl, rfl, hr0, hr1, hre, hb⟩ := hrel
      have HE := Lib.hid hre
      clear hre
      have hbs := hb.size
      by_cases hlt : k < ks.length
      · have HT := Lib.hid (bulkR_take (f := bulkCd) hlt)
        have HQ := Lib.hid (bulkR_rest bulkCd ks (k + 1))
        obtain ⟨b, o, rfl, hB, d0, d1, ⟨A2, c2, d2, r2⟩⟩ := (HR.out.on hb hbs).at_ hlt
        have CK := HK.out k hlt _ wr r ⟨A2, c2, rfl, r2⟩ hr0 hr1
        clear r2
        generalize hkd : ks[k] = kid at *
        have HKD := Lib.hid hkd
        clear hkd
        obtain ⟨f0, f1, f2⟩ := kid
        dsimp only at d0 d1 d2 CK
        generalize bulkCd ⟨f0, f1, f2⟩ = bk at *
        by_cases hlb : r < bk
        · have e1 : szR r bk = -1 := if_pos hlb
          rw [e1] at CK
          have HL := Lib.hid hlb
          replace CK := Lib.hid CK
          clear e1 hlb
          go_wp2_with ((go_at_call 41; (with_reducible refine Calls.mono CK.out ?_); rintro ee w2 ⟨rfl, hb2⟩; have hb3 := hb.trans (hb2.mono hbs)))
          go_ret
          exact ⟨ret_int' (by unfold szR; rw [if_pos (by have := HL.out; have := HT.out; have := HQ.out; have := HE.out; omega)]), hb3⟩
        · have e1 : szR r bk = r - bk := if_neg hlb
          rw [e1] at CK
          have hge2 : (0 : Int) ≤ r - bk := by omega
          replace CK := Lib.hid CK
          clear e1 hlb
          go_wp2_with ((go_at_call 41; (with_reducible refine Calls.mono CK.out ?_); rintro ee w2 ⟨rfl, hb2⟩; have hb3 := hb.trans (hb2.mono hbs)))
          go_roundw
          case rel => exact ⟨k + 1, r - bk, by omega, by go_num, rfl, by omega, by omega, by rw [HT.out]; have := HE.out; omega, hb3⟩
          case measure => simp only [intOf]; omega
      · obtain rfl : k = ks.length := by omega
        have e2 : ks.take ks.length = ks := List.take_length
        go_wp2
        go_ret
        exact ⟨ret_int' (by unfold szR; have h3 := HE.out; rw [e2] at h3; rw [if_neg (by omega)]; omega), hb⟩
set_option maxHeartbeats 2000000 in
theorem szUnit_any (x : Un) (hm : SmUn x) (v : Value) (w : World) (left : Int) (hV : UnV w (Lt w.heap.size) x v) (h0 : 0 ≤ left) (h1 : left ≤ 1048576) :
    Calls Tryd.prog 6 #[v, .int .i64 left] w (IntB (szR left (bulkUn x)) w) := by
  obtain ⟨A0, c0, rfl, r0⟩ := hV
  have m0 := hm
  clear hm
  unfold SmUn at m0
  obtain ⟨f0⟩ := x
  dsimp only at *
  have HK := Lib.hid (show bulkUn ⟨f0⟩ = bulkR bulkCd f0 from rfl)
  generalize bulkUn ⟨f0⟩ = bk at *
  have K0 := Lib.hid (BoxV.new w [.slice A0 f0.length c0] 24)
  have hlt : w.heap.size < (w.alloc (.cells #[.slice A0 f0.length c0] 24)).heap.size := by rw [World.size_alloc]; omega
  have hb : Below w.heap.size w (w.alloc (.cells #[.slice A0 f0.length c0] 24)) := (Below.refl _ _).alloc (Nat.le_refl _) _
  have C0 := fun W hh r h0 h1 => Lib.hid (szCodeS_any f0 m0 A0 c0 W r (r0.on (w' := W) (B' := W.heap.size) hh hh.size) h0 h1)
  clear r0 m0
  generalize bulkR bulkCd f0 = b0 at *
  have D0 := fun W hh => Lib.hid (C0 W hh (left) (by omega) (by omega)).out
  clear C0
  by_cases e0 : left < b0
  · rw [szR_lt e0] at D0
    have HN := Lib.hid e0
    clear e0
    go_enter Tryd.func6, Tryd.ntmps6
    go_wp2_with fail
    (with_reducible refine Calls.mono (D0 _ hb).out ?_)
    rintro ee w1 ⟨rfl, hc1⟩
    have hb1 := hb.trans (hc1.mono (Nat.le_of_lt hlt))
    clear hc1
    go_wp2_with fail
    go_ret
    exact ⟨ret_int' (by rw [HK.out, szR_lt (by have := HN.out; omega)]), hb1⟩
  rw [szR_ge e0] at D0
  have g0 : (0 : Int) ≤ left - b0 := by omega
  clear e0
  have HN := Lib.hid (show szR left (b0) = left - b0 by have h := szR_ge (r := left) (b := b0) (by omega); omega)
  go_enter Tryd.func6, Tryd.ntmps6
  go_wp2_with fail
  (with_reducible refine Calls.mono (D0 _ hb).out ?_)
  rintro ee w1 ⟨rfl, hc1⟩
  have hb1 := hb.trans (hc1.mono (Nat.le_of_lt hlt))
  clear hc1
  go_wp2_with fail
  go_ret
  exact ⟨ret_int' (by rw [HK.out]; exact HN.out.symm), hb1⟩
end Go.Proofs.YtomhomnibikceaaDoor
