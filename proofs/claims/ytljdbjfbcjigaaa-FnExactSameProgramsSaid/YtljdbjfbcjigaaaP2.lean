/-
  What the laws' own helpers do with functions and programs: how much they hold.
-/
import Derived.Test.YtljdbjfbcjigaaaP1
import Derived.Test.YtljdbjfbcjigaaaT2
namespace Go.Proofs.Ytljdbjfbcjigaaa
open Go.RowKit
set_option maxRecDepth 100000

set_option maxHeartbeats 1000000 in
theorem szStringS_any (ks : List ByteArray) (hs : ∀ s ∈ ks, s.size ≤ maxLen) (hl : ks.length ≤ maxLen) (A : Option Addr) (cap : Nat) (w : World) (left : Int) (hR : StrS w (Lt w.heap.size) ks A) (h0 : 0 ≤ left) (h1 : left ≤ 1048576) :
    Calls Try.prog 24 #[.slice A ks.length cap, .int .i64 left] w (IntB (szR left (bulkS ks)) w) := by
  unfold maxLen at hl
  have HS := Lib.hid hs
  have HR := Lib.hid hR
  clear hR hs
  by_cases hneg : left < ks.length
  · have HN := Lib.hid hneg
    have hneg' : left - ks.length < 0 := by omega
    go_enter Try.func24, Try.ntmps24
    go_wp2_with fail
    go_ret
    exact ⟨ret_int' (by unfold szR; have h1 := length_le_bulkS ks; rw [if_pos (by have := HN.out; omega)]), Below.refl _ _⟩
  · have hge : (ks.length : Int) ≤ left := by omega
    clear hneg
    go_enter Try.func24, Try.ntmps24
    go_wp2_with fail
    go_loopw [1, 5] (fun v i wr => ∃ (k : Nat) (r : Int), k ≤ ks.length ∧ i = .int .i64 k ∧ v = .int .i64 r ∧ 0 ≤ r ∧ r ≤ 1048576 ∧ r + bulkS (ks.take k) = left - ks.length + k ∧ Below w.heap.size w wr) (fun _ i _ => ks.length - (intOf i).toNat)
    case atStart => exact ⟨0, _, Nat.zero_le _, rfl, rfl, by omega, by omega, by rw [List.take_zero]; show _ + ((0 : Nat) : Int) = _; omega, Below.refl _ _⟩
    case round =>
      obtain ⟨k, r, hk, rfl, rfl, hr0, hr1, hre, hb⟩ := hrel
      have HE := Lib.hid hre
      clear hre
      have hbs := hb.size
      by_cases hlt : k < ks.length
      · have HT := Lib.hid (bulkS_take hlt)
        have HQ := Lib.hid (bulkS_rest ks (k + 1))
        obtain ⟨b, o, rfl, hB, d0⟩ := (HR.out.on hb hbs).at_ hlt
        have hsz := HS.out _ (List.getElem_mem hlt)
        unfold maxLen at hsz
        generalize hkd : ks[k] = kid at *
        have HKD := Lib.hid hkd
        clear hkd
        by_cases hlb : r < kid.size
        · have HL := Lib.hid hlb
          have hneg : r - kid.size < 0 := by omega
          clear hlb
          go_wp2_with fail
          go_ret
          exact ⟨ret_int' (by unfold szR; rw [if_pos (by have := HL.out; have := HT.out; have := HQ.out; have := HE.out; omega)]), hb⟩
        · have hge2 : (kid.size : Int) ≤ r := by omega
          clear hlb
          go_wp2_with fail
          go_roundw
          case rel => exact ⟨k + 1, r - kid.size, by omega, by go_num, rfl, by omega, by omega, by rw [HT.out]; have := HE.out; omega, hb⟩
          case measure => simp only [intOf]; omega
      · obtain rfl : k = ks.length := by omega
        have e2 : ks.take ks.length = ks := List.take_length
        go_wp2
        go_ret
        exact ⟨ret_int' (by unfold szR; have h3 := HE.out; rw [e2] at h3; rw [if_neg (by omega)]; omega), hb⟩
set_option maxHeartbeats 1000000 in
theorem szFn_any (f : Fu) (hm : SmF f) (v : Value) (w : World) (left : Int) (hV : FuV w (Lt w.heap.size) f v) (h0 : 0 ≤ left) (h1 : left ≤ 1048576) :
    Calls Try.prog 16 #[v, .int .i64 left] w (IntB (szR left (bulkF f)) w) := by
  obtain ⟨A1, p1, A2, p2, rfl, r1, r2⟩ := hV
  obtain ⟨hs, m1, m2, m3, m4⟩ := hm
  obtain ⟨s, a, bd⟩ := f
  dsimp only at *
  have HK := Lib.hid (show bulkF ⟨s, a, bd⟩ = s.size + bulkS a + bulkTL bd from rfl)
  generalize bulkF ⟨s, a, bd⟩ = bk at *
  obtain ⟨c0, c1, c2, hlt, hb⟩ : (w.alloc (.cells #[.string s, .slice A1 a.length p1, .slice A2 bd.length p2] 46)).cell? ⟨w.heap.size, 0, none⟩ = some (.string s) ∧ (w.alloc (.cells #[.string s, .slice A1 a.length p1, .slice A2 bd.length p2] 46)).cell? ⟨w.heap.size, 1, none⟩ = some (.slice A1 a.length p1) ∧ (w.alloc (.cells #[.string s, .slice A1 a.length p1, .slice A2 bd.length p2] 46)).cell? ⟨w.heap.size, 2, none⟩ = some (.slice A2 bd.length p2) ∧ w.heap.size < (w.alloc (.cells #[.string s, .slice A1 a.length p1, .slice A2 bd.length p2] 46)).heap.size ∧ Below w.heap.size w (w.alloc (.cells #[.string s, .slice A1 a.length p1, .slice A2 bd.length p2] 46)) :=
    ⟨alloc_cell w _ _ _ 0, alloc_cell w _ _ _ 1, alloc_cell w _ _ _ 2, by rw [World.size_alloc]; omega, (Below.refl _ _).alloc (Nat.le_refl _) _⟩
  have CA := fun W hh r h0 h1 => Lib.hid (szStringS_any a m1 m2 A1 p1 W r (r1.on (w' := W) (B' := W.heap.size) hh hh.size) h0 h1)
  have CB := fun W hh r h0 h1 => Lib.hid (szStmtS_any bd m4 m3 A2 p2 W r (r2.on (w' := W) (B' := W.heap.size) hh hh.size) h0 h1)
  clear r1 r2 c0 m1 m2 m3 m4
  unfold maxLen at hs
  generalize bulkS a = b1 at *
  generalize bulkTL bd = b2 at *
  by_cases hneg : left < s.size
  · have HN := Lib.hid hneg
    have hneg' : left - s.size < 0 := by omega
    clear CA CB
    go_enter Try.func16, Try.ntmps16
    go_wp2_with fail
    go_ret
    exact ⟨ret_int' (by rw [HK.out, szR_lt (by have := HN.out; omega)]), hb⟩
  have hge : (s.size : Int) ≤ left := by omega
  clear hneg
  replace CA := CA _ hb (left - s.size) (by omega) (by omega)
  by_cases ha : left - s.size < b1
  · rw [szR_lt ha] at CA
    have HN := Lib.hid ha
    clear CB ha
    go_enter Try.func16, Try.ntmps16
    go_wp2_with ((go_at_call 24; (with_reducible refine Calls.mono CA.out ?_); rintro ee w1 ⟨rfl, hb1⟩; have hb2 := hb.trans (hb1.mono (Nat.le_of_lt hlt))))
    go_ret
    exact ⟨ret_int' (by rw [HK.out, szR_lt (by have := HN.out; omega)]), hb2⟩
  rw [szR_ge ha] at CA
  have ha' : (0 : Int) ≤ left - s.size - b1 := by omega
  clear ha
  have CB2 := fun W hh => Lib.hid (CB W hh (left - s.size - b1) (by omega) (by omega)).out
  clear CB
  have HR := Lib.hid (show szR (left - s.size - b1) b2 = szR left bk by rw [HK.out]; unfold szR; by_cases h' : left - s.size - b1 < b2
                                                                        · rw [if_pos h', if_pos (by omega)]
                                                                        · rw [if_neg h', if_neg (by omega)]; omega)
  by_cases he : left - s.size - b1 < b2
  · have e1 : szR (left - s.size - b1) b2 = -1 := szR_lt he
    have HR2 := Lib.hid (HR.out.symm.trans e1)
    rw [e1] at CB2
    clear HR e1 he
    go_enter Try.func16, Try.ntmps16
    go_wp2_with fail
    (with_reducible refine Calls.mono CA.out ?_)
    rintro ee w1 ⟨rfl, hb1⟩
    have hb2 := hb.trans (hb1.mono (Nat.le_of_lt hlt))
    have g2 := (hb1.cell (p := ⟨w.heap.size, 2, none⟩) hlt).trans c2
    go_wp2_with fail
    (with_reducible refine Calls.mono (CB2 _ hb2).out ?_)
    rintro ee w2 ⟨rfl, hb3⟩
    have hb4 := hb2.trans (hb3.mono hb2.size)
    go_wp2_with fail
    go_ret
    exact ⟨ret_int' HR2.out.symm, hb4⟩
  · have e1 : szR (left - s.size - b1) b2 = left - s.size - b1 - b2 := szR_ge he
    have HR2 := Lib.hid (HR.out.symm.trans e1)
    have he' : (0 : Int) ≤ left - s.size - b1 - b2 := by omega
    rw [e1] at CB2
    clear HR e1 he
    go_enter Try.func16, Try.ntmps16
    go_wp2_with fail
    (with_reducible refine Calls.mono CA.out ?_)
    rintro ee w1 ⟨rfl, hb1⟩
    have hb2 := hb.trans (hb1.mono (Nat.le_of_lt hlt))
    have g2 := (hb1.cell (p := ⟨w.heap.size, 2, none⟩) hlt).trans c2
    go_wp2_with fail
    (with_reducible refine Calls.mono (CB2 _ hb2).out ?_)
    rintro ee w2 ⟨rfl, hb3⟩
    have hb4 := hb2.trans (hb3.mono hb2.size)
    go_wp2_with fail
    go_ret
    exact ⟨ret_int' HR2.out.symm, hb4⟩
set_option maxHeartbeats 1000000 in
theorem szFnS_any (ks : List Fu) (hm : ∀ f ∈ ks, SmF f) (hl : ks.length ≤ maxLen) (A : Option Addr) (cap : Nat) (w : World) (left : Int) (hR : FuS w (Lt w.heap.size) ks A) (h0 : 0 ≤ left) (h1 : left ≤ 1048576) :
    Calls Try.prog 9 #[.slice A ks.length cap, .int .i64 left] w (IntB (szR left (bulkFL ks)) w) := by
  unfold maxLen at hl
  have HK := Lib.hid fun i (h : i < ks.length) => szFn_any _ (hm _ (List.getElem_mem h))
  have HR := Lib.hid hR
  clear hR hm
  by_cases hneg : left < ks.length
  · have HN := Lib.hid hneg
    have hneg' : left - ks.length < 0 := by omega
    go_enter Try.func9, Try.ntmps9
    go_wp2_with fail
    go_ret
    exact ⟨ret_int' (by unfold szR; have h1 := length_le_bulkFL ks; rw [if_pos (by have := HN.out; omega)]), Below.refl _ _⟩
  · have hge : (ks.length : Int) ≤ left := by omega
    clear hneg
    go_enter Try.func9, Try.ntmps9
    go_wp2_with fail
    go_loopw [1, 5] (fun v i wr => ∃ (k : Nat) (r : Int), k ≤ ks.length ∧ i = .int .i64 k ∧ v = .int .i64 r ∧ 0 ≤ r ∧ r ≤ 1048576 ∧ r + bulkFL (ks.take k) = left - ks.length + k ∧ Below w.heap.size w wr) (fun _ i _ => ks.length - (intOf i).toNat)
    case atStart => exact ⟨0, _, Nat.zero_le _, rfl, rfl, by omega, by omega, by rw [List.take_zero]; show _ + ((0 : Nat) : Int) = _; omega, Below.refl _ _⟩
    case round =>
      obtain ⟨k, r, hk, rfl, rfl, hr0, hr1, hre, hb⟩ := hrel
      have HE := Lib.hid hre
      clear hre
      have hbs := hb.size
      by_cases hlt : k < ks.length
      · have HT := Lib.hid (bulkFL_take hlt)
        have HQ := Lib.hid (bulkFL_rest ks (k + 1))
        obtain ⟨b, o, rfl, hB, d0, ⟨A1, p1, d1, r1⟩, A2, p2, d2, r2⟩ := (HR.out.on hb hbs).at_ hlt
        have CK := HK.out k hlt _ wr r ⟨A1, p1, A2, p2, rfl, r1, r2⟩ hr0 hr1
        clear r1 r2
        generalize hkd : ks[k] = kid at *
        have HKD := Lib.hid hkd
        clear hkd
        obtain ⟨s', a', b'⟩ := kid
        dsimp only at d0 d1 d2 CK
        generalize bulkF ⟨s', a', b'⟩ = bk at *
        by_cases hlb : r < bk
        · have e1 : szR r bk = -1 := if_pos hlb
          rw [e1] at CK
          have HL := Lib.hid hlb
          replace CK := Lib.hid CK
          clear e1 hlb
          go_wp2_with ((go_at_call 16; (with_reducible refine Calls.mono CK.out ?_); rintro ee w2 ⟨rfl, hb2⟩; have hb3 := hb.trans (hb2.mono hbs)))
          go_ret
          exact ⟨ret_int' (by unfold szR; rw [if_pos (by have := HL.out; have := HT.out; have := HQ.out; have := HE.out; omega)]), hb3⟩
        · have e1 : szR r bk = r - bk := if_neg hlb
          rw [e1] at CK
          have hge2 : (0 : Int) ≤ r - bk := by omega
          replace CK := Lib.hid CK
          clear e1 hlb
          go_wp2_with ((go_at_call 16; (with_reducible refine Calls.mono CK.out ?_); rintro ee w2 ⟨rfl, hb2⟩; have hb3 := hb.trans (hb2.mono hbs)))
          go_roundw
          case rel => exact ⟨k + 1, r - bk, by omega, by go_num, rfl, by omega, by omega, by rw [HT.out]; have := HE.out; omega, hb3⟩
          case measure => simp only [intOf]; omega
      · obtain rfl : k = ks.length := by omega
        have e2 : ks.take ks.length = ks := List.take_length
        go_wp2
        go_ret
        exact ⟨ret_int' (by unfold szR; have h3 := HE.out; rw [e2] at h3; rw [if_neg (by omega)]; omega), hb⟩
set_option maxHeartbeats 1000000 in
theorem szProgram_any (p : List Fu) (hm : SmP p) (v : Value) (w : World) (hV : PrV w (Lt w.heap.size) p v) :
    Calls Try.prog 4 #[v, .int .i64 1048576] w (IntB (szR 1048576 (bulkFL p)) w) := by
  obtain ⟨A, c, rfl, hR⟩ := hV
  have hb : Below w.heap.size w (w.alloc (.cells #[.slice A p.length c] 24)) := (Below.refl _ _).alloc (Nat.le_refl _) _
  have hbs := hb.size
  have CS := Lib.hid (szFnS_any p hm.2 hm.1 A c _ 1048576 (hR.on hb hb.size) (by omega) (by omega))
  clear hR
  by_cases he : 1048576 < bulkFL p
  · rw [szR_no he] at CS ⊢
    clear he hm
    go_enter Try.func4, Try.ntmps4
    go_wp2_with fail
    (with_reducible refine Calls.mono CS.out ?_)
    rintro ee w1 ⟨rfl, hb1⟩
    have hb2 := hb.trans (hb1.mono hbs)
    go_wp2_with fail
    go_ret
    exact ⟨rfl, hb2⟩
  · rw [szR_yes he] at CS ⊢
    have he' : (0 : Int) ≤ 1048576 - bulkFL p := by omega
    clear he hm
    generalize bulkFL p = bk at *
    go_enter Try.func4, Try.ntmps4
    go_wp2_with fail
    (with_reducible refine Calls.mono CS.out ?_)
    rintro ee w1 ⟨rfl, hb1⟩
    have hb2 := hb.trans (hb1.mono hbs)
    go_wp2_with fail
    go_ret
    exact ⟨rfl, hb2⟩
end Go.Proofs.Ytljdbjfbcjigaaa
