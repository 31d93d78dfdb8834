/-
  Sameness of expressions: the model's SameExpr; the program's test beside the Kids.
-/
import Derived.Test.YtoepehlndljkoaaG3
namespace Go.Proofs.Ytoepehlndljkoaa
open Go.RowKit
set_option maxRecDepth 100000

/-- Two new blocks. -/
theorem two4 (w : World) (u0 u1 u2 u3 v0 v1 v2 v3 : Value) (t t' : TypeId) :
    Bx4 ((w.alloc (.cells #[u0, u1, u2, u3] t)).alloc (.cells #[v0, v1, v2, v3] t')) w.heap.size u0 u1 u2 u3 ∧ Bx4 ((w.alloc (.cells #[u0, u1, u2, u3] t)).alloc (.cells #[v0, v1, v2, v3] t')) (w.heap.size + 1) v0 v1 v2 v3 ∧
    w.heap.size + 1 < ((w.alloc (.cells #[u0, u1, u2, u3] t)).alloc (.cells #[v0, v1, v2, v3] t')).heap.size ∧ Below w.heap.size w ((w.alloc (.cells #[u0, u1, u2, u3] t)).alloc (.cells #[v0, v1, v2, v3] t')) := by
  have s1 : (w.alloc (.cells #[u0, u1, u2, u3] t)).heap.size = w.heap.size + 1 := World.size_alloc _ _
  have hal := (Below.refl _ (w.alloc (.cells #[u0, u1, u2, u3] t))).alloc (Nat.le_refl _) (.cells #[v0, v1, v2, v3] t')
  have X : Bx4 (w.alloc (.cells #[u0, u1, u2, u3] t)) w.heap.size u0 u1 u2 u3 := ⟨alloc_cell w _ _ _ 0, alloc_cell w _ _ _ 1, alloc_cell w _ _ _ 2, alloc_cell w _ _ _ 3⟩
  have Y : Bx4 ((w.alloc (.cells #[u0, u1, u2, u3] t)).alloc (.cells #[v0, v1, v2, v3] t')) (w.alloc (.cells #[u0, u1, u2, u3] t)).heap.size v0 v1 v2 v3 := ⟨alloc_cell _ _ _ _ 0, alloc_cell _ _ _ _ 1, alloc_cell _ _ _ _ 2, alloc_cell _ _ _ _ 3⟩
  rw [s1] at Y
  exact ⟨X.below hal (by rw [s1]; omega), Y, by rw [World.size_alloc, s1]; omega, two_boxes _ _ _⟩
/-- Are two expressions alike but for what is in their Kids? -/
def besB (a b : E) : Bool := decide (a.op = b.op ∧ a.n = b.n ∧ a.name = b.name ∧ a.kids.length = b.kids.length)
theorem besB_iff (a b : E) : besB a b = true ↔ a.op = b.op ∧ a.n = b.n ∧ a.name = b.name ∧ a.kids.length = b.kids.length := by unfold besB; rw [decide_eq_true_eq]
/-- Are two expressions alike but for their Kids, and how many these are? -/
def bes3 (a b : E) : Bool := decide (a.op = b.op ∧ a.n = b.n ∧ a.name = b.name)
theorem bes3_no {a b : E} (h : bes3 a b = false) : besB a b = false := by
  unfold bes3 at h
  unfold besB
  rw [decide_eq_false_iff_not] at *
  exact fun g => h ⟨g.1, g.2.1, g.2.2.1⟩
theorem bes3_len {a b : E} (h : a.kids.length ≠ b.kids.length) : besB a b = false := by
  unfold besB
  rw [decide_eq_false_iff_not]
  exact fun g => h g.2.2.2
theorem bes3_yes {a b : E} (h : bes3 a b = true) (hl : a.kids.length = b.kids.length) : besB a b = true := by
  unfold bes3 at h
  rw [decide_eq_true_eq] at h
  exact (besB_iff a b).2 ⟨h.1, h.2.1, h.2.2, hl⟩
set_option maxHeartbeats 1000000 in
theorem sameBeside_any (a b : E) (A : Option Addr) (cap : Nat) (A' : Option Addr) (cap' : Nat) (w : World) :
    Calls Try.prog 12 #[exV a A cap, exV b A' cap'] w (BoolB (bes3 a b) w) := by
  unfold exV
  obtain ⟨op, n, s, ks⟩ := a
  obtain ⟨op', n', s', ls⟩ := b
  have HQ := Lib.hid (show bes3 (E.mk op n s ks) (E.mk op' n' s' ls) = decide (op = op' ∧ n = n' ∧ s = s') from rfl)
  dsimp only [E.op, E.n, E.name, E.kids] at *
  have hb := two_boxes w (.cells #[.int .i64 op, .int .i64 n, .string s, .slice A ks.length cap] 29) (.cells #[.int .i64 op', .int .i64 n', .string s', .slice A' ls.length cap'] 29)
  generalize bes3 (E.mk op n s ks) (E.mk op' n' s' ls) = z at *
  by_cases h1 : op = op'
  · subst h1
    have p1 : (op == op) = true := by simp
    by_cases h2 : n = n'
    · subst h2
      have p2 : (n == n) = true := by simp
      by_cases h3 : s = s'
      · subst h3
        have p3 : (s.toList == s.toList) = true := by simp
        go_enter Try.func12, Try.ntmps12
        go_wp2_with fail
        go_ret
        exact ⟨ret_bool (by rw [HQ.out]; simp), hb⟩
      · have e2 : (s.toList == s'.toList) = false := str_eq_false h3
        have HC := Lib.hid h3; clear h3
        go_enter Try.func12, Try.ntmps12
        go_wp2_with fail
        go_ret
        exact ⟨ret_bool (by rw [HQ.out, eq_comm, decide_eq_false_iff_not]; exact fun h => HC.out h.2.2), hb⟩
    · have e1 : (n == n') = false := beq_no h2
      have HC := Lib.hid h2; clear h2
      go_enter Try.func12, Try.ntmps12
      go_wp2_with fail
      go_ret
      exact ⟨ret_bool (by rw [HQ.out, eq_comm, decide_eq_false_iff_not]; exact fun h => HC.out h.2.1), hb⟩
  · have e1 : (op == op') = false := beq_no h1
    have HC := Lib.hid h1; clear h1
    go_enter Try.func12, Try.ntmps12
    go_wp2_with fail
    go_ret
    exact ⟨ret_bool (by rw [HQ.out, eq_comm, decide_eq_false_iff_not]; exact fun h => HC.out h.1), hb⟩
/-- The model's SameExpr. -/
def SpSame (a : E) : Prop := ∀ (b : E) (A : Option Addr) (cap : Nat) (A' : Option Addr) (cap' : Nat) (w : World), RdS w w.heap.size a.kids A → RdS w w.heap.size b.kids A' → bulkE a ≤ 2000000 → bulkE b ≤ 2000000 →
  Calls Try.prog 5 #[exV a A cap, exV b A' cap'] w (BoolB (eqB a b) w)
open Classical in
set_option maxHeartbeats 4000000 in
theorem specSame_of (a : E) (H : ∀ k ∈ a.kids, SpSame k) : SpSame a := by
  intro b A cap A' cap' w hR hR' hl hsb
  obtain ⟨op, n, s, ks⟩ := a
  obtain ⟨op', n', s', ls⟩ := b
  have HK := fun i (h : i < ks.length) => H _ (List.getElem_mem (l := ks) h)
  clear H
  unfold SpSame exV at HK
  unfold exV
  replace HK := Lib.hid HK
  replace hl : bulkL ks ≤ 2000000 := by have h : s.size + bulkL ks ≤ 2000000 := hl; omega
  replace hsb : bulkL ls ≤ 2000000 := by have h : s'.size + bulkL ls ≤ 2000000 := hsb; omega
  have hn : ks.length ≤ 2000000 := by have := length_le_sizeL ks; have := sizeL_bulk ks; omega
  have hn' : ls.length ≤ 2000000 := by have := length_le_sizeL ls; have := sizeL_bulk ls; omega
  dsimp only [E.op, E.n, E.name, E.kids] at *
  obtain ⟨⟨u0, u1, u2, u3⟩, ⟨v0, v1, v2, v3⟩, hlt, hb⟩ := two4 w (.int .i64 op) (.int .i64 n) (.string s) (.slice A ks.length cap) (.int .i64 op') (.int .i64 n') (.string s') (.slice A' ls.length cap') 29 29
  have HR := Lib.hid (hR.on hb hb.size)
  have HR' := Lib.hid (hR'.on hb hb.size)
  have HKS := Lib.hid hl
  have HLS := Lib.hid hsb
  have HB := Lib.hid hb
  clear hR hR' hl hsb
  by_cases h1 : op = op'
  · subst h1
    have p1 : (op != op) = false := by simp
    by_cases h2 : n = n'
    · subst h2
      have p2 : (n != n) = false := by simp
      by_cases h3 : s = s'
      · subst h3
        have p3 : (s.toList == s.toList) = true := by simp
        by_cases h4 : ks.length = ls.length
        · have p4 : ((ks.length : Int) == (ls.length : Int)) = true := by rw [beq_iff_eq]; omega
          have p5 : ((ks.length : Int) != (ls.length : Int)) = false := by rw [bne, p4]; rfl
          have HL := Lib.hid h4
          have HQ := Lib.hid (eqB_same op n s ks ls)
          clear h4
          go_enter Try.func5, Try.ntmps5
          go_wp2_with fail
          have U := Lib.hid (show Bx4 _ w.heap.size _ _ _ _ from ⟨u0, u1, u2, u3⟩)
          have V := Lib.hid (show Bx4 _ (w.heap.size + 1) _ _ _ _ from ⟨v0, v1, v2, v3⟩)
          generalize (w.alloc (.cells #[.int .i64 op, .int .i64 n, .string s, .slice A ks.length cap] 29)).alloc (.cells #[.int .i64 op, .int .i64 n, .string s, .slice A' ls.length cap'] 29) = wa at *
          clear p1 p2 p3 p4 p5 u0 u1 u2 u3 v0 v1 v2 v3 hb
          have hlt0 : w.heap.size < wa.heap.size := by omega
          go_loopw [5] (fun i wr => ∃ (k : Nat), k ≤ ks.length ∧ i = .int .i64 k ∧ (∀ j, (h : j < ks.length) → (h' : j < ls.length) → j < k → ks[j] = ls[j]) ∧ Below wa.heap.size wa wr) (fun i _ => ks.length - (intOf i).toNat)
          case atStart => exact ⟨0, Nat.zero_le _, rfl, fun j _ _ hj => absurd hj (by omega), Below.refl _ _⟩
          case round =>
            obtain ⟨k, hk, rfl, hall, hb⟩ := hrel
            have hbs := hb.size
            have hbw := HB.out.trans (hb.mono HB.out.size)
            obtain ⟨u0, u1, u2, u3⟩ := U.out.below hb hlt0
            by_cases hltk : k < ks.length
            · have hlt' : k < ls.length := by have := HL.out; omega
              obtain ⟨v0, v1, v2, v3⟩ := V.out.below hb hlt
              obtain ⟨b, o, rfl, hB, ⟨c0, c1, c2⟩, A1, cap1, c3, hr⟩ := (HR.out.below hb).at_ hltk
              obtain ⟨b', o', rfl, hB', ⟨d0, d1, d2⟩, A2, cap2, d3, hr'⟩ := (HR'.out.below hb).at_ hlt'
              have hm1 : bulkE ks[k] ≤ 2000000 := by have := bulkL_mem (List.getElem_mem hltk); have := HKS.out; omega
              have hm2 : bulkE ls[k] ≤ 2000000 := by have := bulkL_mem (List.getElem_mem hlt'); have := HLS.out; omega
              have CK := HK.out k hltk ls[k] A1 cap1 A2 cap2 wr.drew ((hr.below (Below.refl _ wr).drew).more hbs) ((hr'.below (Below.refl _ wr).drew).more hbs) hm1 hm2
              have HA := Lib.hid hall; clear hall hm1 hm2 hr hr'
              generalize hs0 : ks[k] = x at *
              generalize hs1 : ls[k] = x' at *
              have HS := Lib.hid hs0; clear hs0
              have HS' := Lib.hid hs1; clear hs1
              obtain ⟨op1, n1, s1, kk⟩ := x
              obtain ⟨op2, n2, s2, kk'⟩ := x'
              dsimp only [E.op, E.n, E.name, E.kids] at c0 c1 c2 c3 d0 d1 d2 d3 CK
              have hBr : b < wr.heap.size := Nat.lt_of_lt_of_le hB hbs
              have hBr' : b' < wr.heap.size := Nat.lt_of_lt_of_le hB' hbs
              have hu : w.heap.size < wr.heap.size := Nat.lt_of_lt_of_le hlt0 hbs
              have hv : w.heap.size + 1 < wr.heap.size := Nat.lt_of_lt_of_le hlt hbs
              have HN : Hid (eqB (E.mk op1 n1 s1 kk) (E.mk op2 n2 s2 kk') = false → ks ≠ ls) := Lib.hid fun hd e => by
                have h1 := HS.out
                have h2 := HS'.out
                simp only [e] at h1
                rw [← h1, ← h2, eqB_yes] at hd
                cases hd
              have HD : Hid (eqB (E.mk op1 n1 s1 kk) (E.mk op2 n2 s2 kk') = true → E.mk op1 n1 s1 kk = E.mk op2 n2 s2 kk') := Lib.hid (eqB_iff _ _).1
              generalize eqB (E.mk op1 n1 s1 kk) (E.mk op2 n2 s2 kk') = z at *
              replace CK := Lib.hid CK
              go_wp2_with fail
              go_region_held3 (fun u => u.cell? ⟨w.heap.size, 3, none⟩ = some (.slice (some ⟨b, o, none⟩) ks.length cap) ∧ u.cell? ⟨w.heap.size + 1, 3, none⟩ = some (.slice (some ⟨b', o', none⟩) ls.length cap') ∧ u.cell? ⟨b, o + k * 4, none⟩ = some (.int .i64 op1) ∧ u.cell? ⟨b, o + k * 4 + 1, none⟩ = some (.int .i64 n1) ∧ u.cell? ⟨b, o + k * 4 + 2, none⟩ = some (.string s1) ∧ u.cell? ⟨b, o + k * 4 + 3, none⟩ = some (.slice A1 kk.length cap1) ∧ u.cell? ⟨b', o' + k * 4, none⟩ = some (.int .i64 op2) ∧ u.cell? ⟨b', o' + k * 4 + 1, none⟩ = some (.int .i64 n2) ∧ u.cell? ⟨b', o' + k * 4 + 2, none⟩ = some (.string s2) ∧ u.cell? ⟨b', o' + k * 4 + 3, none⟩ = some (.slice A2 kk'.length cap2)) (go_keep)
                (first | (go_at_call 5; (with_reducible refine Calls.mono CK.out ?_); rintro e w' ⟨rfl, hb1⟩; have t3 := (hb1.cell (p := ⟨w.heap.size, 3, none⟩) hu).trans u3; have r3 := (hb1.cell (p := ⟨w.heap.size + 1, 3, none⟩) hv).trans v3; have g0 := (hb1.cell (p := ⟨b, o + k * 4, none⟩) hBr).trans c0; have g1 := (hb1.cell (p := ⟨b, o + k * 4 + 1, none⟩) hBr).trans c1; have g2 := (hb1.cell (p := ⟨b, o + k * 4 + 2, none⟩) hBr).trans c2; have g3 := (hb1.cell (p := ⟨b, o + k * 4 + 3, none⟩) hBr).trans c3; have q0 := (hb1.cell (p := ⟨b', o' + k * 4, none⟩) hBr').trans d0; have q1 := (hb1.cell (p := ⟨b', o' + k * 4 + 1, none⟩) hBr').trans d1; have q2 := (hb1.cell (p := ⟨b', o' + k * 4 + 2, none⟩) hBr').trans d2; have q3 := (hb1.cell (p := ⟨b', o' + k * 4 + 3, none⟩) hBr').trans d3))
              have hb2 := hb.drew.trans (hb1.mono hbs)
              have hbw2 := hbw.drew.trans (hb1.mono (Nat.le_trans HB.out.size hbs))
              clear hb hb1 hbw
              cases z
              · go_wp2_with fail
                go_ret
                exact ⟨ret_bool (by rw [HQ.out, eqLB_no (HN.out (by trivial))]), hbw2⟩
              · go_wp2_with fail
                go_roundw
                case rel => exact ⟨k + 1, by omega, by go_num, fun j h1 h2 hjk => by
                  by_cases e : j = k
                  · subst e; exact (HS.out.trans (HD.out (by trivial))).trans HS'.out.symm
                  · exact HA.out j h1 h2 (by omega), hb2⟩
                case measure => simp only [intOf]; omega
            · obtain rfl : k = ks.length := by omega
              have HA := Lib.hid hall
              clear hall
              go_wp2_with fail
              go_ret
              refine ⟨ret_bool ?_, hbw⟩
              rw [HQ.out]
              unfold eqLB
              rw [eq_comm, decide_eq_true_eq]
              exact List.ext_getElem HL.out (fun j h1 h2 => HA.out j h1 h2 h1)
        · have p4 : ((ks.length : Int) == (ls.length : Int)) = false := beq_no (by omega)
          have p5 : ((ks.length : Int) != (ls.length : Int)) = true := by rw [bne, p4]; rfl
          have HC := Lib.hid h4; clear h4
          go_enter Try.func5, Try.ntmps5
          go_wp2_with fail
          go_ret
          exact ⟨ret_bool (by rw [eqB_no]; intro h; injection h with _ _ _ h; exact HC.out (by rw [h])), hb⟩
      · have e2 : (s.toList == s'.toList) = false := str_eq_false h3
        have HC := Lib.hid h3; clear h3
        go_enter Try.func5, Try.ntmps5
        go_wp2_with fail
        go_ret
        exact ⟨ret_bool (by rw [eqB_no]; intro h; injection h with _ _ h; exact HC.out h), hb⟩
    · have e1 : (n == n') = false := beq_no h2
      have e2 : (n != n') = true := by rw [bne, e1]; rfl
      have HC := Lib.hid h2; clear h2
      go_enter Try.func5, Try.ntmps5
      go_wp2_with fail
      go_ret
      exact ⟨ret_bool (by rw [eqB_no]; intro h; injection h with _ h; exact HC.out h), hb⟩
  · have e1 : (op == op') = false := beq_no h1
    have e2 : (op != op') = true := by rw [bne, e1]; rfl
    have HC := Lib.hid h1; clear h1
    go_enter Try.func5, Try.ntmps5
    go_wp2_with fail
    go_ret
    exact ⟨ret_bool (by rw [eqB_no]; intro h; injection h with h; exact HC.out h), hb⟩
theorem specSameExpr_any (a : E) : SpSame a := E.ind (P := SpSame) (fun e ih => specSame_of e ih) a
end Go.Proofs.Ytoepehlndljkoaa
