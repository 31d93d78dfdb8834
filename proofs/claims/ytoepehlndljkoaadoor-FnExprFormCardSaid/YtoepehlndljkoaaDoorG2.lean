/-
  What the laws' own helpers do with expressions: how much they hold, a copy, whether two are one.
-/
import Derived.Test.YtoepehlndljkoaaDoorB0
import Derived.Test.YtoepehlndljkoaaDoorG1
import Derived.Deep.RegionHeld3
namespace Go.Proofs.YtoepehlndljkoaaDoor
open Go.RowKit
set_option maxRecDepth 100000

/-- A number, and new blocks at most. -/
def IntB (n : Int) (w : World) (e : Ending) (w' : World) : Prop := e = .returned (.int .i64 n) ∧ Below w.heap.size w w'
theorem box4 (w : World) (v0 v1 v2 v3 : Value) (t : TypeId) :
    (w.alloc (.cells #[v0, v1, v2, v3] t)).cell? ⟨w.heap.size, 0, none⟩ = some v0 ∧ (w.alloc (.cells #[v0, v1, v2, v3] t)).cell? ⟨w.heap.size, 1, none⟩ = some v1 ∧ (w.alloc (.cells #[v0, v1, v2, v3] t)).cell? ⟨w.heap.size, 2, none⟩ = some v2 ∧ (w.alloc (.cells #[v0, v1, v2, v3] t)).cell? ⟨w.heap.size, 3, none⟩ = some v3 ∧ w.heap.size < (w.alloc (.cells #[v0, v1, v2, v3] t)).heap.size ∧ Below w.heap.size w (w.alloc (.cells #[v0, v1, v2, v3] t)) :=
  ⟨alloc_cell w _ _ _ 0, alloc_cell w _ _ _ 1, alloc_cell w _ _ _ 2, alloc_cell w _ _ _ 3, by rw [World.size_alloc]; omega, (Below.refl _ _).alloc (Nat.le_refl _) _⟩
theorem ret_int' {k : IntKind} {a b : Int} (h : a = b) : Ending.returned (.int k a) = .returned (.int k b) := by rw [h]

def SzE (e : E) : Prop := ∀ (A : Option Addr) (cap : Nat) (w : World) (left : Int), RdS w w.heap.size e.kids A → 0 ≤ left → left ≤ 1048576 →
  Calls Tryd.prog 5 #[exV e A cap, .int .i64 left] w (IntB (szR left (bulkE e)) w)
def SzL (ks : List E) : Prop := ∀ (A : Option Addr) (cap : Nat) (w : World) (left : Int), RdS w w.heap.size ks A → 0 ≤ left → left ≤ 1048576 →
  Calls Tryd.prog 15 #[.slice A ks.length cap, .int .i64 left] w (IntB (szR left (bulkL ks)) w)
set_option maxHeartbeats 1000000 in
theorem szExpr_of (e : E) (hs : e.name.size ≤ maxLen) (H : SzL e.kids) : SzE e := by
  intro A cap w left hR h0 h1
  unfold exV
  unfold maxLen at hs
  have HB := Lib.hid (bulkE_kids e)
  obtain ⟨op, n, s, ks⟩ := e
  dsimp only [E.op, E.n, E.name, E.kids] at *
  obtain ⟨c0, c1, c2, c3, hlt, hb⟩ := box4 w (.int .i64 op) (.int .i64 n) (.string s) (.slice A ks.length cap) 24
  by_cases hneg : left < s.size
  · have HN := Lib.hid hneg
    have hneg' : left - s.size < 0 := by omega
    clear H hR
    go_enter Tryd.func5, Tryd.ntmps5
    go_wp2_with fail
    go_ret
    exact ⟨ret_int' (by unfold szR; rw [HB.out, if_pos (by have := HN.out; omega)]), hb⟩
  · have hge : (s.size : Int) ≤ left := by omega
    have CS := Lib.hid (H A cap _ (left - s.size) (hR.on hb (Nat.le_of_lt hlt)) (by omega) (by omega))
    clear H hR hneg
    by_cases h2 : left - s.size < bulkL ks
    · have e1 : szR (left - s.size) (bulkL ks) = -1 := if_pos h2
      have H2 := Lib.hid h2
      rw [e1] at CS
      clear h2 e1
      go_enter Tryd.func5, Tryd.ntmps5
      go_wp2_with ((go_at_call 15; (with_reducible refine Calls.mono CS.out ?_); rintro ee w1 ⟨rfl, hb1⟩; have hb2 := hb.trans (hb1.mono (Nat.le_of_lt hlt))))
      go_ret
      exact ⟨ret_int' (by unfold szR; rw [HB.out, if_pos (by have := H2.out; omega)]), hb2⟩
    · have e1 : szR (left - s.size) (bulkL ks) = left - s.size - bulkL ks := if_neg h2
      have H2 := Lib.hid h2
      have hge2 : (0 : Int) ≤ left - s.size - bulkL ks := by omega
      rw [e1] at CS
      clear h2 e1
      go_enter Tryd.func5, Tryd.ntmps5
      go_wp2_with ((go_at_call 15; (with_reducible refine Calls.mono CS.out ?_); rintro ee w1 ⟨rfl, hb1⟩; have hb2 := hb.trans (hb1.mono (Nat.le_of_lt hlt))))
      go_ret
      exact ⟨ret_int' (by unfold szR; rw [HB.out, if_neg (by have := H2.out; omega)]; omega), hb2⟩
set_option maxHeartbeats 1000000 in
theorem szExprS_of (ks : List E) (hl : ks.length ≤ maxLen) (H : ∀ k ∈ ks, SzE k) : SzL ks := by
  intro A cap w left hR h0 h1
  unfold maxLen at hl
  have HK := fun i (h : i < ks.length) => H _ (List.getElem_mem h)
  clear H
  unfold SzE exV at HK
  replace HK := Lib.hid HK
  have HR := Lib.hid hR
  clear hR
  by_cases hneg : left < ks.length
  · have HN := Lib.hid hneg
    have hneg' : left - ks.length < 0 := by omega
    go_enter Tryd.func15, Tryd.ntmps15
    go_wp2_with fail
    go_ret
    exact ⟨ret_int' (by unfold szR; have h1 := sizeL_bulk ks; have h2 := length_le_sizeL ks; rw [if_pos (by have := HN.out; omega)]), Below.refl _ _⟩
  · have hge : (ks.length : Int) ≤ left := by omega
    clear hneg
    go_enter Tryd.func15, Tryd.ntmps15
    go_wp2_with fail
    go_loopw [1, 5] (fun v i wr => ∃ (k : Nat) (r : Int), k ≤ ks.length ∧ i = .int .i64 k ∧ v = .int .i64 r ∧ 0 ≤ r ∧ r ≤ 1048576 ∧ r + bulkL (ks.take k) = left - ks.length + k ∧ Below w.heap.size w wr) (fun _ i _ => ks.length - (intOf i).toNat)
    case atStart => exact ⟨0, _, Nat.zero_le _, rfl, rfl, by omega, by omega, by rw [List.take_zero]; show _ + ((0 : Nat) : Int) = _; omega, Below.refl _ _⟩
    case round =>
      obtain ⟨k, r, hk, rfl, rfl, hr0, hr1, hre, hb⟩ := hrel
      have HE := Lib.hid hre
      clear hre
      have hbs := hb.size
      by_cases hlt : k < ks.length
      · have HT := Lib.hid (bulkL_take hlt)
        have HQ := Lib.hid (bulkL_rest ks (k + 1))
        obtain ⟨b, o, rfl, hB, ⟨d0, d1, d2⟩, A', cap', d3, hr'⟩ := (HR.out.below hb).at_ hlt
        have CK := HK.out k hlt A' cap' wr r (hr'.more hbs) hr0 hr1
        clear hr'
        generalize hkd : ks[k] = kid at *
        have HKD := Lib.hid hkd
        clear hkd
        obtain ⟨op', n', s', ks'⟩ := kid
        dsimp only [E.op, E.n, E.name, E.kids] at d0 d1 d2 d3 CK
        generalize bulkE (E.mk op' n' s' ks') = bk at *
        by_cases hlb : r < bk
        · have e1 : szR r bk = -1 := if_pos hlb
          rw [e1] at CK
          have HL := Lib.hid hlb
          replace CK := Lib.hid CK
          clear e1 hlb
          go_wp2_with ((go_at_call 5; (with_reducible refine Calls.mono CK.out ?_); rintro ee w2 ⟨rfl, hb2⟩; have hb3 := hb.trans (hb2.mono hbs)))
          go_ret
          exact ⟨ret_int' (by unfold szR; rw [if_pos (by have := HL.out; have := HT.out; have := HQ.out; have := HE.out; omega)]), hb3⟩
        · have e1 : szR r bk = r - bk := if_neg hlb
          rw [e1] at CK
          have hge2 : (0 : Int) ≤ r - bk := by omega
          replace CK := Lib.hid CK
          clear e1 hlb
          go_wp2_with ((go_at_call 5; (with_reducible refine Calls.mono CK.out ?_); rintro ee w2 ⟨rfl, hb2⟩; have hb3 := hb.trans (hb2.mono hbs)))
          go_roundw
          case rel => exact ⟨k + 1, r - bk, by omega, by go_num, rfl, by omega, by omega, by rw [HT.out]; have := HE.out; omega, hb3⟩
          case measure => simp only [intOf]; omega
      · obtain rfl : k = ks.length := by omega
        have e2 : ks.take ks.length = ks := List.take_length
        go_wp2
        go_ret
        exact ⟨ret_int' (by unfold szR; have h3 := HE.out; rw [e2] at h3; rw [if_neg (by omega)]; omega), hb⟩
theorem szExpr_any (e : E) (hs : SmE e) : SzE e := by
  refine E.ind (P := fun e => SmE e → SzE e) ?_ e hs
  intro e ih hs
  rw [SmE_mk] at hs
  exact szExpr_of e hs.1 (szExprS_of _ hs.2.1 fun k hk => ih k hk (SmL_mem hs.2.2 hk))

open Classical in
/-- Are two expressions one? -/
noncomputable def eqB (a b : E) : Bool := decide (a = b)
open Classical in
noncomputable def eqLB (a b : List E) : Bool := decide (a = b)
def EqE (a : E) : Prop := ∀ (b : E) (A : Option Addr) (cap : Nat) (A' : Option Addr) (cap' : Nat) (w : World), RdS w w.heap.size a.kids A → RdS w w.heap.size b.kids A' → bulkE a ≤ 2000000 → bulkE b ≤ 2000000 →
  Calls Tryd.prog 9 #[exV a A cap, exV b A' cap'] w (BoolB (eqB a b) w)
def EqL (ks : List E) : Prop := ∀ (ls : List E) (A : Option Addr) (cap : Nat) (A' : Option Addr) (cap' : Nat) (w : World), RdS w w.heap.size ks A → RdS w w.heap.size ls A' → bulkL ks ≤ 2000000 → bulkL ls ≤ 2000000 →
  Calls Tryd.prog 20 #[.slice A ks.length cap, .slice A' ls.length cap'] w (BoolB (eqLB ks ls) w)
open Classical in
theorem eqB_same (op n : Int) (s : ByteArray) (ks ls : List E) : eqB (.mk op n s ks) (.mk op n s ls) = eqLB ks ls := by
  unfold eqB eqLB
  rw [Bool.eq_iff_iff, decide_eq_true_eq, decide_eq_true_eq]
  exact ⟨fun h => by injection h, fun h => by rw [h]⟩
open Classical in
theorem eqB_no {a b : E} (h : a ≠ b) : eqB a b = false := by unfold eqB; rw [decide_eq_false_iff_not]; exact h
open Classical in
theorem eqLB_no {a b : List E} (h : a ≠ b) : eqLB a b = false := by unfold eqLB; rw [decide_eq_false_iff_not]; exact h
open Classical in
theorem eqB_yes (a : E) : eqB a a = true := by unfold eqB; rw [decide_eq_true_eq]
open Classical in
theorem eqB_iff (a b : E) : eqB a b = true ↔ a = b := by unfold eqB; rw [decide_eq_true_eq]
set_option maxHeartbeats 1000000 in
theorem eqExpr_of (a : E) (H : EqL a.kids) : EqE a := by
  intro b A cap A' cap' w hR hR' hl hsb
  unfold exV
  obtain ⟨op, n, s, ks⟩ := a
  obtain ⟨op', n', s', ls⟩ := b
  replace hl : bulkL ks ≤ 2000000 := by have h : s.size + bulkL ks ≤ 2000000 := hl; omega
  replace hsb : bulkL ls ≤ 2000000 := by have h : s'.size + bulkL ls ≤ 2000000 := hsb; omega
  dsimp only [E.op, E.n, E.name, E.kids] at *
  have hb := two_boxes w (.cells #[.int .i64 op, .int .i64 n, .string s, .slice A ks.length cap] 30) (.cells #[.int .i64 op', .int .i64 n', .string s', .slice A' ls.length cap'] 30)
  by_cases h1 : op = op'
  · subst h1
    have p1 : (op != op) = false := by simp
    by_cases h2 : n = n'
    · subst h2
      have p2 : (n != n) = false := by simp
      by_cases h3 : s = s'
      · subst h3
        have p3 : (s.toList == s.toList) = true := by simp
        have CS := H ls A cap A' cap' _ (hR.on hb hb.size) (hR'.on hb hb.size) hl hsb
        have HQ := Lib.hid (eqB_same op n s ks ls)
        clear H hR hR'
        generalize eqLB ks ls = z at *
        replace CS := Lib.hid CS
        have hbs := hb.size
        cases z
        all_goals
          go_enter Tryd.func9, Tryd.ntmps9
          go_wp2_with ((go_at_call 20; (with_reducible refine Calls.mono CS.out ?_); rintro ee w1 ⟨rfl, hb1⟩; have hb2 := hb.trans (hb1.mono hbs)))
          go_ret
          exact ⟨ret_bool (by rw [HQ.out]), hb2⟩
      · have e2 : (s.toList == s'.toList) = false := str_eq_false h3
        have HC := Lib.hid h3; clear h3 H hR hR'
        go_enter Tryd.func9, Tryd.ntmps9
        go_wp2_with fail
        go_ret
        exact ⟨ret_bool (by rw [eqB_no]; intro h; injection h with _ _ h; exact HC.out h), hb⟩
    · have e1 : (n == n') = false := beq_no h2
      have e2 : (n != n') = true := by rw [bne, e1]; rfl
      have HC := Lib.hid h2; clear h2 H hR hR'
      go_enter Tryd.func9, Tryd.ntmps9
      go_wp2_with fail
      go_ret
      exact ⟨ret_bool (by rw [eqB_no]; intro h; injection h with _ h; exact HC.out h), hb⟩
  · have e1 : (op == op') = false := beq_no h1
    have e2 : (op != op') = true := by rw [bne, e1]; rfl
    have HC := Lib.hid h1; clear h1 H hR hR'
    go_enter Tryd.func9, Tryd.ntmps9
    go_wp2_with fail
    go_ret
    exact ⟨ret_bool (by rw [eqB_no]; intro h; injection h with h; exact HC.out h), hb⟩
theorem SmL_get {ks : List E} (h : SmL ks) {i : Nat} (hi : i < ks.length) : SmE ks[i] := SmL_mem h (List.getElem_mem hi)
open Classical in
set_option maxHeartbeats 2000000 in
theorem eqExprS_of (ks : List E) (H : ∀ k ∈ ks, EqE k) : EqL ks := by
  intro ls A cap A' cap' w hR hR' hks hls
  have hn : ks.length ≤ 2000000 := by have := length_le_sizeL ks; have := sizeL_bulk ks; omega
  have hn' : ls.length ≤ 2000000 := by have := length_le_sizeL ls; have := sizeL_bulk ls; omega
  have HKS := Lib.hid hks
  have HLS := Lib.hid hls
  clear hks hls
  have HK := fun i (h : i < ks.length) => H _ (List.getElem_mem h)
  clear H
  unfold EqE exV at HK
  replace HK := Lib.hid HK
  have HR := Lib.hid hR
  have HR' := Lib.hid hR'
  clear hR hR'
  by_cases hl : ks.length = ls.length
  · have e1 : ((ks.length : Int) == (ls.length : Int)) = true := by rw [beq_iff_eq]; omega
    have e2 : ((ks.length : Int) != (ls.length : Int)) = false := by rw [bne, e1]; rfl
    have HL := Lib.hid hl; clear hl
    go_enter Tryd.func20, Tryd.ntmps20
    go_wp2_with fail
    clear e1 e2
    go_loopw [5] (fun i wr => ∃ (k : Nat), k ≤ ks.length ∧ i = .int .i64 k ∧ (∀ j, (h : j < ks.length) → (h' : j < ls.length) → j < k → ks[j] = ls[j]) ∧ Below w.heap.size w wr) (fun i _ => ks.length - (intOf i).toNat)
    case atStart => exact ⟨0, Nat.zero_le _, rfl, fun j _ _ hj => absurd hj (by omega), Below.refl _ _⟩
    case round =>
      obtain ⟨k, hk, rfl, hall, hb⟩ := hrel
      by_cases hlt : k < ks.length
      · have hlt' : k < ls.length := by have := HL.out; omega
        have hbs := hb.size
        obtain ⟨b, o, rfl, hB, ⟨c0, c1, c2⟩, A1, cap1, c3, hr⟩ := (HR.out.below hb).at_ hlt
        obtain ⟨b', o', rfl, hB', ⟨d0, d1, d2⟩, A2, cap2, d3, hr'⟩ := (HR'.out.below hb).at_ hlt'
        have hm1 : bulkE ks[k] ≤ 2000000 := by have := bulkL_mem (List.getElem_mem hlt); have := HKS.out; omega
        have hm2 : bulkE ls[k] ≤ 2000000 := by have := bulkL_mem (List.getElem_mem hlt'); have := HLS.out; omega
        have CK := HK.out k hlt ls[k] A1 cap1 A2 cap2 wr.drew ((hr.below (Below.refl _ wr).drew).more hbs) ((hr'.below (Below.refl _ wr).drew).more hbs) hm1 hm2
        have HA := Lib.hid hall; clear hall hm1 hm2 hr hr'
        generalize hs0 : ks[k] = x at *
        generalize hs1 : ls[k] = x' at *
        have HS := Lib.hid hs0; clear hs0
        have HS' := Lib.hid hs1; clear hs1
        obtain ⟨op, n, s, kk⟩ := x
        obtain ⟨op', n', s', kk'⟩ := x'
        dsimp only [E.op, E.n, E.name, E.kids] at c0 c1 c2 c3 d0 d1 d2 d3 CK
        have hBr : b < wr.heap.size := Nat.lt_of_lt_of_le hB hbs
        have hBr' : b' < wr.heap.size := Nat.lt_of_lt_of_le hB' hbs
        go_wp2_with fail
        cases hd : eqB (E.mk op n s kk) (E.mk op' n' s' kk')
        · rw [hd] at CK
          replace CK := Lib.hid CK
          have hne : ks ≠ ls := by
            intro e
            have h1 := HS.out
            have h2 := HS'.out
            simp only [e] at h1
            rw [← h1, ← h2, eqB_yes] at hd
            cases hd
          have HN := Lib.hid hne
          clear hne hd
          go_region_held3 (fun u => u.cell? ⟨b, o + k * 4, none⟩ = some (.int .i64 op) ∧ u.cell? ⟨b, o + k * 4 + 1, none⟩ = some (.int .i64 n) ∧ u.cell? ⟨b, o + k * 4 + 2, none⟩ = some (.string s) ∧ u.cell? ⟨b, o + k * 4 + 3, none⟩ = some (.slice A1 kk.length cap1) ∧ u.cell? ⟨b', o' + k * 4, none⟩ = some (.int .i64 op') ∧ u.cell? ⟨b', o' + k * 4 + 1, none⟩ = some (.int .i64 n') ∧ u.cell? ⟨b', o' + k * 4 + 2, none⟩ = some (.string s') ∧ u.cell? ⟨b', o' + k * 4 + 3, none⟩ = some (.slice A2 kk'.length cap2)) (go_keep)
            (first | (go_at_call 9; (with_reducible refine Calls.mono CK.out ?_); rintro e w' ⟨rfl, hb1⟩; have g0 := (hb1.cell (p := ⟨b, o + k * 4, none⟩) hBr).trans c0; have g1 := (hb1.cell (p := ⟨b, o + k * 4 + 1, none⟩) hBr).trans c1; have g2 := (hb1.cell (p := ⟨b, o + k * 4 + 2, none⟩) hBr).trans c2; have g3 := (hb1.cell (p := ⟨b, o + k * 4 + 3, none⟩) hBr).trans c3; have q0 := (hb1.cell (p := ⟨b', o' + k * 4, none⟩) hBr').trans d0; have q1 := (hb1.cell (p := ⟨b', o' + k * 4 + 1, none⟩) hBr').trans d1; have q2 := (hb1.cell (p := ⟨b', o' + k * 4 + 2, none⟩) hBr').trans d2; have q3 := (hb1.cell (p := ⟨b', o' + k * 4 + 3, none⟩) hBr').trans d3))
          have hb2 := hb.drew.trans (hb1.mono hbs)
          clear hb hb1
          go_wp2_with fail
          go_ret
          exact ⟨ret_bool (by rw [eqLB_no HN.out]), hb2⟩
        · rw [hd] at CK
          replace CK := Lib.hid CK
          have HD := Lib.hid ((eqB_iff _ _).1 hd)
          clear hd
          go_region_held3 (fun u => u.cell? ⟨b, o + k * 4, none⟩ = some (.int .i64 op) ∧ u.cell? ⟨b, o + k * 4 + 1, none⟩ = some (.int .i64 n) ∧ u.cell? ⟨b, o + k * 4 + 2, none⟩ = some (.string s) ∧ u.cell? ⟨b, o + k * 4 + 3, none⟩ = some (.slice A1 kk.length cap1) ∧ u.cell? ⟨b', o' + k * 4, none⟩ = some (.int .i64 op') ∧ u.cell? ⟨b', o' + k * 4 + 1, none⟩ = some (.int .i64 n') ∧ u.cell? ⟨b', o' + k * 4 + 2, none⟩ = some (.string s') ∧ u.cell? ⟨b', o' + k * 4 + 3, none⟩ = some (.slice A2 kk'.length cap2)) (go_keep)
            (first | (go_at_call 9; (with_reducible refine Calls.mono CK.out ?_); rintro e w' ⟨rfl, hb1⟩; have g0 := (hb1.cell (p := ⟨b, o + k * 4, none⟩) hBr).trans c0; have g1 := (hb1.cell (p := ⟨b, o + k * 4 + 1, none⟩) hBr).trans c1; have g2 := (hb1.cell (p := ⟨b, o + k * 4 + 2, none⟩) hBr).trans c2; have g3 := (hb1.cell (p := ⟨b, o + k * 4 + 3, none⟩) hBr).trans c3; have q0 := (hb1.cell (p := ⟨b', o' + k * 4, none⟩) hBr').trans d0; have q1 := (hb1.cell (p := ⟨b', o' + k * 4 + 1, none⟩) hBr').trans d1; have q2 := (hb1.cell (p := ⟨b', o' + k * 4 + 2, none⟩) hBr').trans d2; have q3 := (hb1.cell (p := ⟨b', o' + k * 4 + 3, none⟩) hBr').trans d3))
          have hb2 := hb.drew.trans (hb1.mono hbs)
          clear hb hb1
          go_wp2_with fail
          go_roundw
          case rel => exact ⟨k + 1, by omega, by go_num, fun j h1 h2 hjk => by
            by_cases e : j = k
            · subst e; exact (HS.out.trans HD.out).trans HS'.out.symm
            · exact HA.out j h1 h2 (by omega), hb2⟩
          case measure => simp only [intOf]; omega
      · obtain rfl : k = ks.length := by omega
        go_wp2_with fail
        go_ret
        refine ⟨ret_bool ?_, hb⟩
        unfold eqLB
        rw [eq_comm, decide_eq_true_eq]
        exact List.ext_getElem HL.out (fun j h1 h2 => hall j h1 h2 h1)
  · have e1 : ((ks.length : Int) == (ls.length : Int)) = false := by rw [beq_eq_false_iff_ne]; omega
    have e2 : ((ks.length : Int) != (ls.length : Int)) = true := by rw [bne, e1]; rfl
    have HL := Lib.hid hl; clear hl
    go_enter Tryd.func20, Tryd.ntmps20
    go_wp2_with fail
    go_ret
    exact ⟨ret_bool (by rw [eqLB_no (fun e => HL.out (by rw [e]))]), Below.refl _ _⟩
theorem eqExpr_any (a : E) : EqE a := by
  refine E.ind (P := fun e => EqE e) ?_ a
  intro e ih
  exact eqExpr_of e (eqExprS_of _ fun k hk => ih k hk)
theorem eqExpr_self (e : E) (h : bulkE e ≤ 1048576) (A : Option Addr) (cap : Nat) (A' : Option Addr) (cap' : Nat) (w : World) (h1 : RdS w w.heap.size e.kids A) (h2 : RdS w w.heap.size e.kids A') :
    Calls Tryd.prog 9 #[exV e A cap, exV e A' cap'] w (BoolB true w) := by
  have := eqExpr_any e e A cap A' cap' w h1 h2 (by omega) (by omega)
  rw [eqB_yes] at this
  exact this
end Go.Proofs.YtoepehlndljkoaaDoor
