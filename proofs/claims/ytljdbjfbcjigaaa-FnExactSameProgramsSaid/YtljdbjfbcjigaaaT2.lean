/-
  What the laws' own helpers do with statements: how much they hold, whether two are one.
-/
import Derived.Test.YtljdbjfbcjigaaaT1
import Derived.Test.YtljdbjfbcjigaaaG2
namespace Go.Proofs.Ytljdbjfbcjigaaa
open Go.RowKit
set_option maxRecDepth 100000

theorem box5 (w : World) (v0 v1 v2 v3 v4 : Value) (t : TypeId) :
    (w.alloc (.cells #[v0, v1, v2, v3, v4] t)).cell? ⟨w.heap.size, 0, none⟩ = some v0 ∧ (w.alloc (.cells #[v0, v1, v2, v3, v4] t)).cell? ⟨w.heap.size, 1, none⟩ = some v1 ∧ (w.alloc (.cells #[v0, v1, v2, v3, v4] t)).cell? ⟨w.heap.size, 2, none⟩ = some v2 ∧ (w.alloc (.cells #[v0, v1, v2, v3, v4] t)).cell? ⟨w.heap.size, 3, none⟩ = some v3 ∧ (w.alloc (.cells #[v0, v1, v2, v3, v4] t)).cell? ⟨w.heap.size, 4, none⟩ = some v4 ∧ w.heap.size < (w.alloc (.cells #[v0, v1, v2, v3, v4] t)).heap.size ∧ Below w.heap.size w (w.alloc (.cells #[v0, v1, v2, v3, v4] t)) :=
  ⟨alloc_cell w _ _ _ 0, alloc_cell w _ _ _ 1, alloc_cell w _ _ _ 2, alloc_cell w _ _ _ 3, alloc_cell w _ _ _ 4, by rw [World.size_alloc]; omega, (Below.refl _ _).alloc (Nat.le_refl _) _⟩
def SzT (t : St) : Prop := ∀ (v : Value) (w : World) (left : Int), StV w (Lt w.heap.size) t v → 0 ≤ left → left ≤ 1048576 →
  Calls Try.prog 32 #[v, .int .i64 left] w (IntB (szR left (bulkT t)) w)
def SzTL (ks : List St) : Prop := ∀ (A : Option Addr) (cap : Nat) (w : World) (left : Int), StS w (Lt w.heap.size) ks A → 0 ≤ left → left ≤ 1048576 →
  Calls Try.prog 25 #[.slice A ks.length cap, .int .i64 left] w (IntB (szR left (bulkTL ks)) w)
theorem szExprS_any (ks : List E) (h : SmL ks) (hl : ks.length ≤ maxLen) : SzL ks := szExprS_of ks hl fun k hk => szExpr_any k (SmL_mem h hk)
set_option maxHeartbeats 2000000 in
theorem szStmt_of (t : St) (hs : t.name.size ≤ maxLen) (HA : SzL t.args) (HB : SzTL t.body) (HE : SzTL t.els) : SzT t := by
  intro v w left hV h0 h1
  obtain ⟨A1, p1, A2, p2, A3, p3, rfl, r1, r2, r3⟩ := hV
  unfold maxLen at hs
  obtain ⟨op, s, a, bd, el⟩ := t
  dsimp only [St.op, St.name, St.args, St.body, St.els] at *
  have HK := Lib.hid (show bulkT (.mk op s a bd el) = s.size + bulkL a + bulkTL bd + bulkTL el from rfl)
  generalize bulkT (.mk op s a bd el) = bk at *
  obtain ⟨c0, c1, c2, c3, c4, hlt, hb⟩ := box5 w (.int .i64 op) (.string s) (.slice A1 a.length p1) (.slice A2 bd.length p2) (.slice A3 el.length p3) 73
  have CA := fun W hh r h0 h1 => Lib.hid (HA A1 p1 W r ((r1.on (w' := W) (B' := W.heap.size) hh hh.size).lt_rd) h0 h1)
  have CB := fun W hh r h0 h1 => Lib.hid (HB A2 p2 W r (r2.on (w' := W) (B' := W.heap.size) hh hh.size) h0 h1)
  have CE := fun W hh r h0 h1 => Lib.hid (HE A3 p3 W r (r3.on (w' := W) (B' := W.heap.size) hh hh.size) h0 h1)
  clear HA HB HE r1 r2 r3 c0
  generalize bulkL a = b1 at *
  generalize bulkTL bd = b2 at *
  generalize bulkTL el = b3 at *
  by_cases hneg : left < s.size
  · have HN := Lib.hid hneg
    have hneg' : left - s.size < 0 := by omega
    clear CA CB CE
    go_enter Try.func32, Try.ntmps32
    go_wp2_with fail
    go_ret
    exact ⟨ret_int' (by rw [HK.out, szR_lt (by have := HN.out; omega)]), hb⟩
  have hge : (s.size : Int) ≤ left := by omega
  clear hneg
  replace CA := CA _ hb (left - s.size) (by omega) (by omega)
  by_cases ha : left - s.size < b1
  · rw [szR_lt ha] at CA
    have HN := Lib.hid ha
    clear CB CE ha
    go_enter Try.func32, Try.ntmps32
    go_wp2_with ((go_at_call 38; (with_reducible refine Calls.mono CA.out ?_); rintro ee w1 ⟨rfl, hb1⟩; have hb2 := hb.trans (hb1.mono (Nat.le_of_lt hlt))))
    go_ret
    exact ⟨ret_int' (by rw [HK.out, szR_lt (by have := HN.out; omega)]), hb2⟩
  rw [szR_ge ha] at CA
  have ha' : (0 : Int) ≤ left - s.size - b1 := by omega
  clear ha
  by_cases hbd : left - s.size - b1 < b2
  · have HN := Lib.hid hbd
    have CB2 := fun W hh => Lib.hid (CB W hh (left - s.size - b1) (by omega) (by omega)).out
    rw [szR_lt hbd] at CB2
    clear CB CE hbd
    go_enter Try.func32, Try.ntmps32
    go_wp2_with ((first
      | (go_at_call 38; (with_reducible refine Calls.mono CA.out ?_); rintro ee w1 ⟨rfl, hb1⟩; have hb2 := hb.trans (hb1.mono (Nat.le_of_lt hlt)); have g3 := (hb1.cell (p := ⟨w.heap.size, 3, none⟩) hlt).trans c3)
      | (go_at_call 25; (with_reducible refine Calls.mono (CB2 _ hb2).out ?_); rintro ee w2 ⟨rfl, hb3⟩; have hb4 := hb2.trans (hb3.mono hb2.size))))
    go_ret
    exact ⟨ret_int' (by rw [HK.out, szR_lt (by have := HN.out; omega)]), hb4⟩
  have CB2 := fun W hh => Lib.hid (CB W hh (left - s.size - b1) (by omega) (by omega)).out
  rw [szR_ge hbd] at CB2
  have hbd' : (0 : Int) ≤ left - s.size - b1 - b2 := by omega
  clear hbd CB
  have CE2 := fun W hh => Lib.hid (CE W hh (left - s.size - b1 - b2) (by omega) (by omega)).out
  clear CE
  have HR := Lib.hid (show szR (left - s.size - b1 - b2) b3 = szR left bk by rw [HK.out]; unfold szR; by_cases h' : left - s.size - b1 - b2 < b3
                                                                             · rw [if_pos h', if_pos (by omega)]
                                                                             · rw [if_neg h', if_neg (by omega)]; omega)
  by_cases he : left - s.size - b1 - b2 < b3
  · have e1 : szR (left - s.size - b1 - b2) b3 = -1 := szR_lt he
    have HR2 := Lib.hid (HR.out.symm.trans e1)
    rw [e1] at CE2
    clear HR e1 he
    go_enter Try.func32, Try.ntmps32
    go_wp2_with fail
    (with_reducible refine Calls.mono CA.out ?_)
    rintro ee w1 ⟨rfl, hb1⟩
    have hb2 := hb.trans (hb1.mono (Nat.le_of_lt hlt))
    have g3 := (hb1.cell (p := ⟨w.heap.size, 3, none⟩) hlt).trans c3
    have g4 := (hb1.cell (p := ⟨w.heap.size, 4, none⟩) hlt).trans c4
    have hlt1 := Nat.lt_of_lt_of_le hlt hb1.size
    go_wp2_with fail
    (with_reducible refine Calls.mono (CB2 _ hb2).out ?_)
    rintro ee w2 ⟨rfl, hb3⟩
    have hb4 := hb2.trans (hb3.mono hb2.size)
    have k4 := (hb3.cell (p := ⟨w.heap.size, 4, none⟩) hlt1).trans g4
    go_wp2_with fail
    (with_reducible refine Calls.mono (CE2 _ hb4).out ?_)
    rintro ee w3 ⟨rfl, hb5⟩
    have hb6 := hb4.trans (hb5.mono hb4.size)
    go_wp2_with fail
    go_ret
    exact ⟨ret_int' HR2.out.symm, hb6⟩
  · have e1 : szR (left - s.size - b1 - b2) b3 = left - s.size - b1 - b2 - b3 := szR_ge he
    have HR2 := Lib.hid (HR.out.symm.trans e1)
    have he' : (0 : Int) ≤ left - s.size - b1 - b2 - b3 := by omega
    rw [e1] at CE2
    clear HR e1 he
    go_enter Try.func32, Try.ntmps32
    go_wp2_with fail
    (with_reducible refine Calls.mono CA.out ?_)
    rintro ee w1 ⟨rfl, hb1⟩
    have hb2 := hb.trans (hb1.mono (Nat.le_of_lt hlt))
    have g3 := (hb1.cell (p := ⟨w.heap.size, 3, none⟩) hlt).trans c3
    have g4 := (hb1.cell (p := ⟨w.heap.size, 4, none⟩) hlt).trans c4
    have hlt1 := Nat.lt_of_lt_of_le hlt hb1.size
    go_wp2_with fail
    (with_reducible refine Calls.mono (CB2 _ hb2).out ?_)
    rintro ee w2 ⟨rfl, hb3⟩
    have hb4 := hb2.trans (hb3.mono hb2.size)
    have k4 := (hb3.cell (p := ⟨w.heap.size, 4, none⟩) hlt1).trans g4
    go_wp2_with fail
    (with_reducible refine Calls.mono (CE2 _ hb4).out ?_)
    rintro ee w3 ⟨rfl, hb5⟩
    have hb6 := hb4.trans (hb5.mono hb4.size)
    go_wp2_with fail
    go_ret
    exact ⟨ret_int' HR2.out.symm, hb6⟩
set_option maxHeartbeats 1000000 in
theorem szStmtS_of (ks : List St) (hl : ks.length ≤ maxLen) (H : ∀ k ∈ ks, SzT k) : SzTL ks := by
  intro A cap w left hR h0 h1
  unfold maxLen at hl
  have HK := fun i (h : i < ks.length) => H _ (List.getElem_mem h)
  clear H
  unfold SzT at HK
  replace HK := Lib.hid HK
  have HR := Lib.hid hR
  clear hR
  by_cases hneg : left < ks.length
  · have HN := Lib.hid hneg
    have hneg' : left - ks.length < 0 := by omega
    go_enter Try.func25, Try.ntmps25
    go_wp2_with fail
    go_ret
    exact ⟨ret_int' (by unfold szR; have h1 := length_le_bulkTL ks; rw [if_pos (by have := HN.out; omega)]), Below.refl _ _⟩
  · have hge : (ks.length : Int) ≤ left := by omega
    clear hneg
    go_enter Try.func25, Try.ntmps25
    go_wp2_with fail
    go_loopw [1, 5] (fun v i wr => ∃ (k : Nat) (r : Int), k ≤ ks.length ∧ i = .int .i64 k ∧ v = .int .i64 r ∧ 0 ≤ r ∧ r ≤ 1048576 ∧ r + bulkTL (ks.take k) = left - ks.length + k ∧ Below w.heap.size w wr) (fun _ i _ => ks.length - (intOf i).toNat)
    case atStart => exact ⟨0, _, Nat.zero_le _, rfl, rfl, by omega, by omega, by rw [List.take_zero]; show _ + ((0 : Nat) : Int) = _; omega, Below.refl _ _⟩
    case round =>
      obtain ⟨k, r, hk, rfl, rfl, hr0, hr1, hre, hb⟩ := hrel
      have HE := Lib.hid hre
      clear hre
      have hbs := hb.size
      by_cases hlt : k < ks.length
      · have HT := Lib.hid (bulkTL_take hlt)
        have HQ := Lib.hid (bulkTL_rest ks (k + 1))
        obtain ⟨b, o, rfl, hB, ⟨d0, d1⟩, ⟨A1, p1, d2, r1⟩, ⟨A2, p2, d3, r2⟩, A3, p3, d4, r3⟩ := (HR.out.on hb hbs).at_ hlt
        have CK := HK.out k hlt _ wr r ⟨A1, p1, A2, p2, A3, p3, rfl, r1, r2, r3⟩ hr0 hr1
        clear r1 r2 r3
        generalize hkd : ks[k] = kid at *
        have HKD := Lib.hid hkd
        clear hkd
        obtain ⟨op', s', a', b', e'⟩ := kid
        dsimp only [St.op, St.name, St.args, St.body, St.els] at d0 d1 d2 d3 d4 CK
        generalize bulkT (St.mk op' s' a' b' e') = bk at *
        by_cases hlb : r < bk
        · have e1 : szR r bk = -1 := if_pos hlb
          rw [e1] at CK
          have HL := Lib.hid hlb
          replace CK := Lib.hid CK
          clear e1 hlb
          go_wp2_with ((go_at_call 32; (with_reducible refine Calls.mono CK.out ?_); rintro ee w2 ⟨rfl, hb2⟩; have hb3 := hb.trans (hb2.mono hbs)))
          go_ret
          exact ⟨ret_int' (by unfold szR; rw [if_pos (by have := HL.out; have := HT.out; have := HQ.out; have := HE.out; omega)]), hb3⟩
        · have e1 : szR r bk = r - bk := if_neg hlb
          rw [e1] at CK
          have hge2 : (0 : Int) ≤ r - bk := by omega
          replace CK := Lib.hid CK
          clear e1 hlb
          go_wp2_with ((go_at_call 32; (with_reducible refine Calls.mono CK.out ?_); rintro ee w2 ⟨rfl, hb2⟩; have hb3 := hb.trans (hb2.mono hbs)))
          go_roundw
          case rel => exact ⟨k + 1, r - bk, by omega, by go_num, rfl, by omega, by omega, by rw [HT.out]; have := HE.out; omega, hb3⟩
          case measure => simp only [intOf]; omega
      · obtain rfl : k = ks.length := by omega
        have e2 : ks.take ks.length = ks := List.take_length
        go_wp2
        go_ret
        exact ⟨ret_int' (by unfold szR; have h3 := HE.out; rw [e2] at h3; rw [if_neg (by omega)]; omega), hb⟩
theorem szStmt_any (t : St) (hs : SmT t) : SzT t := by
  refine St.ind (P := fun t => SmT t → SzT t) ?_ t hs
  intro t ih1 ih2 hs
  rw [SmT_mk] at hs
  obtain ⟨h1, h2, h3, h4, h5, h6, h7⟩ := hs
  exact szStmt_of t h1 (szExprS_any _ h2 h3) (szStmtS_of _ h4 fun k hk => ih1 k hk (SmTL_mem h5 hk)) (szStmtS_of _ h6 fun k hk => ih2 k hk (SmTL_mem h7 hk))
theorem szStmtS_any (ks : List St) (h : SmTL ks) (hl : ks.length ≤ maxLen) : SzTL ks := szStmtS_of ks hl fun k hk => szStmt_any k (SmTL_mem h hk)
end Go.Proofs.Ytljdbjfbcjigaaa
