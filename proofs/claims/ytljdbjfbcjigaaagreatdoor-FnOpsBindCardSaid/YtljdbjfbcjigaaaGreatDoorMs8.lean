/-
  Plain mathematics of comparing with a list of pairs that wait and a set of pairs that were seen; the pairs in memory.
-/
import Derived.Test.YtljdbjfbcjigaaaGreatDoorMg19
import Derived.LaidEqlPtr
import Derived.Maps.Own
import Derived.Laws.StructEq
namespace Go.Proofs.YtljdbjfbcjigaaaGreatDoor
open Go.RowKit
set_option maxRecDepth 100000

/-- Two new blocks. -/
theorem two4 (w : World) (u0 u1 u2 u3 v0 v1 v2 v3 : Value) (t t' : TypeId) :
    Bx4 ((w.alloc (.cells #[u0, u1, u2, u3] t)).alloc (.cells #[v0, v1, v2, v3] t')) w.heap.size u0 u1 u2 u3 ∧ Bx4 ((w.alloc (.cells #[u0, u1, u2, u3] t)).alloc (.cells #[v0, v1, v2, v3] t')) (w.heap.size + 1) v0 v1 v2 v3 ∧
    w.heap.size + 1 < ((w.alloc (.cells #[u0, u1, u2, u3] t)).alloc (.cells #[v0, v1, v2, v3] t')).heap.size ∧ Below w.heap.size w ((w.alloc (.cells #[u0, u1, u2, u3] t)).alloc (.cells #[v0, v1, v2, v3] t')) := by
  have s1 : (w.alloc (.cells #[u0, u1, u2, u3] t)).heap.size = w.heap.size + 1 := World.size_alloc _ _
  have hal := (Below.refl _ (w.alloc (.cells #[u0, u1, u2, u3] t))).alloc (Nat.le_refl _) (.cells #[v0, v1, v2, v3] t')
  have X : Bx4 (w.alloc (.cells #[u0, u1, u2, u3] t)) w.heap.size u0 u1 u2 u3 := ⟨alloc_cell w _ _ _ 0, alloc_cell w _ _ _ 1, alloc_cell w _ _ _ 2, alloc_cell w _ _ _ 3⟩
  have Y : Bx4 ((w.alloc (.cells #[u0, u1, u2, u3] t)).alloc (.cells #[v0, v1, v2, v3] t')) (w.alloc (.cells #[u0, u1, u2, u3] t)).heap.size v0 v1 v2 v3 := ⟨alloc_cell _ _ _ _ 0, alloc_cell _ _ _ _ 1, alloc_cell _ _ _ _ 2, alloc_cell _ _ _ _ 3⟩
  rw [s1] at Y
  exact ⟨X.below hal (by rw [s1]; omega), Y, by rw [World.size_alloc, s1]; omega, two_boxes _ _ _⟩
/-- Are two expressions alike but for what is in their Kids? -/
def besB (a b : E) : Bool := decide (a.op = b.op ∧ a.n = b.n ∧ a.name = b.name ∧ a.kids.length = b.kids.length)
theorem besB_iff (a b : E) : besB a b = true ↔ a.op = b.op ∧ a.n = b.n ∧ a.name = b.name ∧ a.kids.length = b.kids.length := by unfold besB; rw [decide_eq_true_eq]
/-- Are two expressions alike but for their Kids, and how many these are? -/
def bes3 (a b : E) : Bool := decide (a.op = b.op ∧ a.n = b.n ∧ a.name = b.name)
theorem bes3_no {a b : E} (h : bes3 a b = false) : besB a b = false := by
  unfold bes3 at h
  unfold besB
  rw [decide_eq_false_iff_not] at *
  exact fun g => h ⟨g.1, g.2.1, g.2.2.1⟩
theorem bes3_len {a b : E} (h : a.kids.length ≠ b.kids.length) : besB a b = false := by
  unfold besB
  rw [decide_eq_false_iff_not]
  exact fun g => h g.2.2.2
theorem bes3_yes {a b : E} (h : bes3 a b = true) (hl : a.kids.length = b.kids.length) : besB a b = true := by
  unfold bes3 at h
  rw [decide_eq_true_eq] at h
  exact (besB_iff a b).2 ⟨h.1, h.2.1, h.2.2, hl⟩
set_option maxHeartbeats 1000000 in
theorem sameBeside_any (a b : E) (A : Option Addr) (cap : Nat) (A' : Option Addr) (cap' : Nat) (w : World) :
    Calls Tryz.prog 60 #[exV a A cap, exV b A' cap'] w (BoolB (bes3 a b) w) := by
  unfold exV
  obtain ⟨op, n, s, ks⟩ := a
  obtain ⟨op', n', s', ls⟩ := b
  have HQ := Lib.hid (show bes3 (E.mk op n s ks) (E.mk op' n' s' ls) = decide (op = op' ∧ n = n' ∧ s = s') from rfl)
  dsimp only [E.op, E.n, E.name, E.kids] at *
  have hb := two_boxes w (.cells #[.int .i64 op, .int .i64 n, .string s, .slice A ks.length cap] 28) (.cells #[.int .i64 op', .int .i64 n', .string s', .slice A' ls.length cap'] 28)
  generalize bes3 (E.mk op n s ks) (E.mk op' n' s' ls) = z at *
  by_cases h1 : op = op'
  · subst h1
    have p1 : (op == op) = true := by simp
    by_cases h2 : n = n'
    · subst h2
      have p2 : (n == n) = true := by simp
      by_cases h3 : s = s'
      · subst h3
        have p3 : (s.toList == s.toList) = true := by simp
        go_enter Tryz.func60, Tryz.ntmps60
        go_wp2_with fail
        go_ret
        exact ⟨ret_bool (by rw [HQ.out]; simp), hb⟩
      · have e2 : (s.toList == s'.toList) = false := str_eq_false h3
        have HC := Lib.hid h3; clear h3
        go_enter Tryz.func60, Tryz.ntmps60
        go_wp2_with fail
        go_ret
        exact ⟨ret_bool (by rw [HQ.out, eq_comm, decide_eq_false_iff_not]; exact fun h => HC.out h.2.2), hb⟩
    · have e1 : (n == n') = false := beq_no h2
      have HC := Lib.hid h2; clear h2
      go_enter Tryz.func60, Tryz.ntmps60
      go_wp2_with fail
      go_ret
      exact ⟨ret_bool (by rw [HQ.out, eq_comm, decide_eq_false_iff_not]; exact fun h => HC.out h.2.1), hb⟩
  · have e1 : (op == op') = false := beq_no h1
    have HC := Lib.hid h1; clear h1
    go_enter Tryz.func60, Tryz.ntmps60
    go_wp2_with fail
    go_ret
    exact ⟨ret_bool (by rw [HQ.out, eq_comm, decide_eq_false_iff_not]; exact fun h => HC.out h.1), hb⟩
/-- The model's SameExpr. -/
def SpSame (a : E) : Prop := ∀ (b : E) (A : Option Addr) (cap : Nat) (A' : Option Addr) (cap' : Nat) (w : World), RdS w w.heap.size a.kids A → RdS w w.heap.size b.kids A' → bulkE a ≤ 2000000 → bulkE b ≤ 2000000 →
  Calls Tryz.prog 26 #[exV a A cap, exV b A' cap'] w (BoolB (eqB a b) w)
open Classical in
set_option maxHeartbeats 4000000 in
theorem specSame_of (a : E) (H : ∀ k ∈ a.kids, SpSame k) : SpSame a := by
  intro b A cap A' cap' w hR hR' hl hsb
  obtain ⟨op, n, s, ks⟩ := a
  obtain ⟨op', n', s', ls⟩ := b
  have HK := fun i (h : i < ks.length) => H _ (List.getElem_mem (l := ks) h)
  clear H
  unfold SpSame exV at HK
  unfold exV
  replace HK := Lib.hid HK
  replace hl : bulkL ks ≤ 2000000 := by have h : s.size + bulkL ks ≤ 2000000 := hl; omega
  replace hsb : bulkL ls ≤ 2000000 := by have h : s'.size + bulkL ls ≤ 2000000 := hsb; omega
  have hn : ks.length ≤ 2000000 := by have := length_le_sizeL ks; have := sizeL_bulk ks; omega
  have hn' : ls.length ≤ 2000000 := by have := length_le_sizeL ls; have := sizeL_bulk ls; omega
  dsimp only [E.op, E.n, E.name, E.kids] at *
  obtain ⟨⟨u0, u1, u2, u3⟩, ⟨v0, v1, v2, v3⟩, hlt, hb⟩ := two4 w (.int .i64 op) (.int .i64 n) (.string s) (.slice A ks.length cap) (.int .i64 op') (.int .i64 n') (.string s') (.slice A' ls.length cap') 28 28
  have HR := Lib.hid (hR.on hb hb.size)
  have HR' := Lib.hid (hR'.on hb hb.size)
  have HKS := Lib.hid hl
  have HLS := Lib.hid hsb
  have HB := Lib.hid hb
  clear hR hR' hl hsb
  by_cases h1 : op = op'
  · subst h1
    have p1 : (op != op) = false := by simp
    by_cases h2 : n = n'
    · subst h2
      have p2 : (n != n) = false := by simp
      by_cases h3 : s = s'
      · subst h3
        have p3 : (s.toList == s.toList) = true := by simp
        by_cases h4 : ks.length = ls.length
        · have p4 : ((ks.length : Int) == (ls.length : Int)) = true := by rw [beq_iff_eq]; omega
          have p5 : ((ks.length : Int) != (ls.length : Int)) = false := by rw [bne, p4]; rfl
          have HL := Lib.hid h4
          have HQ := Lib.hid (eqB_same op n s ks ls)
          clear h4
          go_enter Tryz.func26, Tryz.ntmps26
          go_wp2_with fail
          have U := Lib.hid (show Bx4 _ w.heap.size _ _ _ _ from ⟨u0, u1, u2, u3⟩)
          have V := Lib.hid (show Bx4 _ (w.heap.size + 1) _ _ _ _ from ⟨v0, v1, v2, v3⟩)
          generalize (w.alloc (.cells #[.int .i64 op, .int .i64 n, .string s, .slice A ks.length cap] 28)).alloc (.cells #[.int .i64 op, .int .i64 n, .string s, .slice A' ls.length cap'] 28) = wa at *
          clear p1 p2 p3 p4 p5 u0 u1 u2 u3 v0 v1 v2 v3 hb
          have hlt0 : w.heap.size < wa.heap.size := by omega
          go_loopw [5] (fun i wr => ∃ (k : Nat), k ≤ ks.length ∧ i = .int .i64 k ∧ (∀ j, (h : j < ks.length) → (h' : j < ls.length) → j < k → ks[j] = ls[j]) ∧ Below wa.heap.size wa wr) (fun i _ => ks.length - (intOf i).toNat)
          case atStart => exact ⟨0, Nat.zero_le _, rfl, fun j _ _ hj => absurd hj (by omega), Below.refl _ _⟩
          case round =>
            obtain ⟨k, hk, rfl, hall, hb⟩ := hrel
            have hbs := hb.size
            have hbw := HB.out.trans (hb.mono HB.out.size)
            obtain ⟨u0, u1, u2, u3⟩ := U.out.below hb hlt0
            by_cases hltk : k < ks.length
            · have hlt' : k < ls.length := by have := HL.out; omega
              obtain ⟨v0, v1, v2, v3⟩ := V.out.below hb hlt
              obtain ⟨b, o, rfl, hB, ⟨c0, c1, c2⟩, A1, cap1, c3, hr⟩ := (HR.out.below hb).at_ hltk
              obtain ⟨b', o', rfl, hB', ⟨d0, d1, d2⟩, A2, cap2, d3, hr'⟩ := (HR'.out.below hb).at_ hlt'
              have hm1 : bulkE ks[k] ≤ 2000000 := by have := bulkL_mem (List.getElem_mem hltk); have := HKS.out; omega
              have hm2 : bulkE ls[k] ≤ 2000000 := by have := bulkL_mem (List.getElem_mem hlt'); have := HLS.out; omega
              have CK := HK.out k hltk ls[k] A1 cap1 A2 cap2 wr.drew ((hr.below (Below.refl _ wr).drew).more hbs) ((hr'.below (Below.refl _ wr).drew).more hbs) hm1 hm2
              have HA := Lib.hid hall; clear hall hm1 hm2 hr hr'
              generalize hs0 : ks[k] = x at *
              generalize hs1 : ls[k] = x' at *
              have HS := Lib.hid hs0; clear hs0
              have HS' := Lib.hid hs1; clear hs1
              obtain ⟨op1, n1, s1, kk⟩ := x
              obtain ⟨op2, n2, s2, kk'⟩ := x'
              dsimp only [E.op, E.n, E.name, E.kids] at c0 c1 c2 c3 d0 d1 d2 d3 CK
              have hBr : b < wr.heap.size := Nat.lt_of_lt_of_le hB hbs
              have hBr' : b' < wr.heap.size := Nat.lt_of_lt_of_le hB' hbs
              have hu : w.heap.size < wr.heap.size := Nat.lt_of_lt_of_le hlt0 hbs
              have hv : w.heap.size + 1 < wr.heap.size := Nat.lt_of_lt_of_le hlt hbs
              have HN : Hid (eqB (E.mk op1 n1 s1 kk) (E.mk op2 n2 s2 kk') = false → ks ≠ ls) := Lib.hid fun hd e => by
                have h1 := HS.out
                have h2 := HS'.out
                simp only [e] at h1
                rw [← h1, ← h2, eqB_yes] at hd
                cases hd
              have HD : Hid (eqB (E.mk op1 n1 s1 kk) (E.mk op2 n2 s2 kk') = true → E.mk op1 n1 s1 kk = E.mk op2 n2 s2 kk') := Lib.hid (eqB_iff _ _).1
              generalize eqB (E.mk op1 n1 s1 kk) (E.mk op2 n2 s2 kk') = z at *
              replace CK := Lib.hid CK
              go_wp2_with fail
              go_region_held3 (fun u => u.cell? ⟨w.heap.size, 3, none⟩ = some (.slice (some ⟨b, o, none⟩) ks.length cap) ∧ u.cell? ⟨w.heap.size + 1, 3, none⟩ = some (.slice (some ⟨b', o', none⟩) ls.length cap') ∧ u.cell? ⟨b, o + k * 4, none⟩ = some (.int .i64 op1) ∧ u.cell? ⟨b, o + k * 4 + 1, none⟩ = some (.int .i64 n1) ∧ u.cell? ⟨b, o + k * 4 + 2, none⟩ = some (.string s1) ∧ u.cell? ⟨b, o + k * 4 + 3, none⟩ = some (.slice A1 kk.length cap1) ∧ u.cell? ⟨b', o' + k * 4, none⟩ = some (.int .i64 op2) ∧ u.cell? ⟨b', o' + k * 4 + 1, none⟩ = some (.int .i64 n2) ∧ u.cell? ⟨b', o' + k * 4 + 2, none⟩ = some (.string s2) ∧ u.cell? ⟨b', o' + k * 4 + 3, none⟩ = some (.slice A2 kk'.length cap2)) (go_keep)
                (first | (go_at_call 26; (with_reducible refine Calls.mono CK.out ?_); rintro e w' ⟨rfl, hb1⟩; have t3 := (hb1.cell (p := ⟨w.heap.size, 3, none⟩) hu).trans u3; have r3 := (hb1.cell (p := ⟨w.heap.size + 1, 3, none⟩) hv).trans v3; have g0 := (hb1.cell (p := ⟨b, o + k * 4, none⟩) hBr).trans c0; have g1 := (hb1.cell (p := ⟨b, o + k * 4 + 1, none⟩) hBr).trans c1; have g2 := (hb1.cell (p := ⟨b, o + k * 4 + 2, none⟩) hBr).trans c2; have g3 := (hb1.cell (p := ⟨b, o + k * 4 + 3, none⟩) hBr).trans c3; have q0 := (hb1.cell (p := ⟨b', o' + k * 4, none⟩) hBr').trans d0; have q1 := (hb1.cell (p := ⟨b', o' + k * 4 + 1, none⟩) hBr').trans d1; have q2 := (hb1.cell (p := ⟨b', o' + k * 4 + 2, none⟩) hBr').trans d2; have q3 := (hb1.cell (p := ⟨b', o' + k * 4 + 3, none⟩) hBr').trans d3))
              have hb2 := hb.drew.trans (hb1.mono hbs)
              have hbw2 := hbw.drew.trans (hb1.mono (Nat.le_trans HB.out.size hbs))
              clear hb hb1 hbw
              cases z
              · go_wp2_with fail
                go_ret
                exact ⟨ret_bool (by rw [HQ.out, eqLB_no (HN.out (by trivial))]), hbw2⟩
              · go_wp2_with fail
                go_roundw
                case rel => exact ⟨k + 1, by omega, by go_num, fun j h1 h2 hjk => by
                  by_cases e : j = k
                  · subst e; exact (HS.out.trans (HD.out (by trivial))).trans HS'.out.symm
                  · exact HA.out j h1 h2 (by omega), hb2⟩
                case measure => simp only [intOf]; omega
            · obtain rfl : k = ks.length := by omega
              have HA := Lib.hid hall
              clear hall
              go_wp2_with fail
              go_ret
              refine ⟨ret_bool ?_, hbw⟩
              rw [HQ.out]
              unfold eqLB
              rw [eq_comm, decide_eq_true_eq]
              exact List.ext_getElem HL.out (fun j h1 h2 => HA.out j h1 h2 h1)
        · have p4 : ((ks.length : Int) == (ls.length : Int)) = false := beq_no (by omega)
          have p5 : ((ks.length : Int) != (ls.length : Int)) = true := by rw [bne, p4]; rfl
          have HC := Lib.hid h4; clear h4
          go_enter Tryz.func26, Tryz.ntmps26
          go_wp2_with fail
          go_ret
          exact ⟨ret_bool (by rw [eqB_no]; intro h; injection h with _ _ _ h; exact HC.out (by rw [h])), hb⟩
      · have e2 : (s.toList == s'.toList) = false := str_eq_false h3
        have HC := Lib.hid h3; clear h3
        go_enter Tryz.func26, Tryz.ntmps26
        go_wp2_with fail
        go_ret
        exact ⟨ret_bool (by rw [eqB_no]; intro h; injection h with _ _ h; exact HC.out h), hb⟩
    · have e1 : (n == n') = false := beq_no h2
      have e2 : (n != n') = true := by rw [bne, e1]; rfl
      have HC := Lib.hid h2; clear h2
      go_enter Tryz.func26, Tryz.ntmps26
      go_wp2_with fail
      go_ret
      exact ⟨ret_bool (by rw [eqB_no]; intro h; injection h with _ h; exact HC.out h), hb⟩
  · have e1 : (op == op') = false := beq_no h1
    have e2 : (op != op') = true := by rw [bne, e1]; rfl
    have HC := Lib.hid h1; clear h1
    go_enter Tryz.func26, Tryz.ntmps26
    go_wp2_with fail
    go_ret
    exact ⟨ret_bool (by rw [eqB_no]; intro h; injection h with h; exact HC.out h), hb⟩
theorem specSameExpr_any (a : E) : SpSame a := E.ind (P := SpSame) (fun e ih => specSame_of e ih) a
end Go.Proofs.YtljdbjfbcjigaaaGreatDoor

namespace Go.Proofs.YtljdbjfbcjigaaaGreatDoor
open Go.RowKit
set_option maxRecDepth 100000

/-- Two lists of Kids: where they lie, and how many there are. -/
structure KP where
  b : Nat
  o : Nat
  b' : Nat
  o' : Nat
  n : Nat
theorem KP.ext' {k l : KP} (h1 : k.b = l.b) (h2 : k.o = l.o) (h3 : k.b' = l.b') (h4 : k.o' = l.o') (h5 : k.n = l.n) : k = l := by
  cases k; cases l; simp_all
def KP.v (k : KP) : Value := .agg #[.pointer (some ⟨k.b, k.o, none⟩), .pointer (some ⟨k.b', k.o', none⟩), .int .i64 (k.n : Int)]
def KP.flat (k : KP) (w : World) : Prop := Flat w k.b ∧ Flat w k.b'
theorem pairFields : (Tryz.prog.fieldsOf 136).toList.map (fun f => (f.name, f.type, f.offset)) = [("a", 134, 0), ("b", 134, 1), ("n", 3, 2)] := by kernel_rfl
theorem part_at (a b c : Value) (w : World) : (part 134 #[a, b, c] 0).run Tryz.prog w = .ok a w ∧ (part 134 #[a, b, c] 1).run Tryz.prog w = .ok b w ∧ (part 3 #[a, b, c] 2).run Tryz.prog w = .ok c w := by
  refine ⟨?_, ?_, ?_⟩ <;> kernel_rfl
open Classical in
theorem ptr_equal (d : Nat) (w : World) (x y : Addr) (hx : Flat w x.block) (hy : Flat w y.block) :
    (Op.equalIn (d + 1) 134 (.pointer (some x)) (.pointer (some y))).run Tryz.prog w = .ok (decide (x = y)) w := by
  obtain ⟨i0, hi, _, hz1, _⟩ := info_parts exprInfo
  have hsz : i0.size ≠ 0 := by rw [hz1]; decide
  obtain ⟨ca, ta, ha⟩ := hx
  obtain ⟨cb, tb, hb⟩ := hy
  by_cases h : x = y
  · subst h
    simp [Op.equalIn, run_underlying Tryz.underlying134, sizeOf, typeInfo, hi, run_sameAddr_same]
  · simp [Op.equalIn, run_underlying Tryz.underlying134, sizeOf, typeInfo, hi, hsz, run_sameAddr_other w h ha hb, h]
open Classical in
theorem key_equal (w : World) (k l : KP) (hk : k.flat w) (hl : l.flat w) : (Op.equal 136 k.v l.v).run Tryz.prog w = .ok (decide (k = l)) w := by
  obtain ⟨f0, f1, f2, hf, e0, e1, e2, e3, e4, e5, e6, e7, e8⟩ : ∃ f0 f1 f2 : Field, (Tryz.prog.fieldsOf 136).toList = [f0, f1, f2] ∧ f0.name = "a" ∧ f0.type = 134 ∧ f0.offset = 0 ∧ f1.name = "b" ∧ f1.type = 134 ∧ f1.offset = 1 ∧ f2.name = "n" ∧ f2.type = 3 ∧ f2.offset = 2 := by
    have h := pairFields
    generalize (Tryz.prog.fieldsOf 136).toList = l at *
    match l, (show l.length = 3 by simpa using congrArg List.length h), h with
    | [f0, f1, f2], _, h =>
      simp only [List.map_cons, List.map_nil, List.cons.injEq, Prod.mk.injEq, and_true] at h
      obtain ⟨⟨a, b, c⟩, ⟨a', b', c'⟩, a'', b'', c''⟩ := h
      exact ⟨f0, f1, f2, rfl, a, b, c, a', b', c', a'', b'', c''⟩
  show (Op.equalIn (9999 + 1) 136 k.v l.v).run Tryz.prog w = _
  unfold KP.v
  rw [run_equalIn_agg _ _ _ _ _ (by kernel_rfl) (by kernel_rfl), hf]
  obtain ⟨p0, p1, p2⟩ := part_at (.pointer (some ⟨k.b, k.o, none⟩)) (.pointer (some ⟨k.b', k.o', none⟩)) (.int .i64 (k.n : Int)) w
  obtain ⟨q0, q1, q2⟩ := part_at (.pointer (some ⟨l.b, l.o, none⟩)) (.pointer (some ⟨l.b', l.o', none⟩)) (.int .i64 (l.n : Int)) w
  have r0 := ptr_equal 9998 w ⟨k.b, k.o, none⟩ ⟨l.b, l.o, none⟩ hk.1 hl.1
  have r1 := ptr_equal 9998 w ⟨k.b', k.o', none⟩ ⟨l.b', l.o', none⟩ hk.2 hl.2
  have r2 := run_equalIn_int (P := Tryz.prog) w 9998 3 .i64 .i64 (k.n : Int) (l.n : Int) Tryz.underlying3
  have n0 : ("a" ≠ "_") = True := by decide
  have n1 : ("b" ≠ "_") = True := by decide
  have n2 : ("n" ≠ "_") = True := by decide
  simp only [Op.eqFields, e0, e1, e2, e3, e4, e5, e6, e7, e8, n0, n1, n2, if_true, Sem.run_bind, p0, q0, Result.andThen_ok, r0]
  by_cases h0 : (⟨k.b, k.o, none⟩ : Addr) = ⟨l.b, l.o, none⟩
  · have d0 := decide_eq_true h0
    simp only [d0, Bool.not_true, Bool.false_eq_true, if_false, Sem.run_bind, p1, q1, Result.andThen_ok, r1]
    by_cases h1 : (⟨k.b', k.o', none⟩ : Addr) = ⟨l.b', l.o', none⟩
    · have d1 := decide_eq_true h1
      simp only [d1, Bool.not_true, Bool.false_eq_true, if_false, Sem.run_bind, p2, q2, Result.andThen_ok, r2]
      by_cases h2 : k.n = l.n
      · have h3 : k = l := by
          injection h0 with a b
          injection h1 with c d
          exact KP.ext' a b c d h2
        have d2 : ((k.n : Int) == (l.n : Int)) = true := beq_yes (by omega)
        rw [d2, decide_eq_true h3]
        rfl
      · have h3 : k ≠ l := fun e => h2 (by rw [e])
        have d2 : ((k.n : Int) == (l.n : Int)) = false := beq_no (by omega)
        rw [d2, decide_eq_false h3]
        rfl
    · have h3 : k ≠ l := fun e => h1 (by rw [e])
      rw [decide_eq_false h1, decide_eq_false h3]
      rfl
  · have h3 : k ≠ l := fun e => h0 (by rw [e])
    rw [decide_eq_false h0, decide_eq_false h3]
    rfl
/-- The set's block. -/
def Seen (w : World) (R : Nat) (K : List KP) : Prop := ∃ es clock, w.heap[R]? = some (.map es clock) ∧ es.toList.map (·.key) = K.map KP.v ∧ ∀ e ∈ es.toList, e.val = .bool true
open Classical in
theorem find_asking (w : World) (k : KP) (hk : k.flat w) : ∀ (es : List MapEntry) (K : List KP) (i : Nat), es.map (·.key) = K.map KP.v → (∀ x ∈ K, x.flat w) → (∀ e ∈ es, e.val = .bool true) →
    (k ∈ K ∧ ∃ j, (Instr.findAsking 136 k.v es i).run Tryz.prog w = .ok (some (j, .bool true)) w) ∨ (k ∉ K ∧ (Instr.findAsking 136 k.v es i).run Tryz.prog w = .ok none w)
  | [], K, i, h, _, _ => by
    cases K with
    | nil => exact .inr ⟨by simp, rfl⟩
    | cons _ _ => cases h
  | e :: es, K, i, h, hf, hv => by
    cases K with
    | nil => cases h
    | cons x K =>
      simp only [List.map_cons, List.cons.injEq] at h
      have hq := key_equal w k x hk (hf x (by simp))
      have ih := find_asking w k hk es K (i + 1) h.2 (fun y hy => hf y (by simp [hy])) (fun y hy => hv y (by simp [hy]))
      have hve := hv e (by simp)
      simp only [Instr.findAsking, Sem.run_bind, h.1, hq, Result.andThen_ok]
      by_cases hkx : k = x
      · rw [decide_eq_true hkx]
        exact .inl ⟨by simp [hkx], i, by simp [hve]⟩
      · rw [decide_eq_false hkx]
        rcases ih with ⟨h1, j, h2⟩ | ⟨h1, h2⟩
        · exact .inl ⟨by simp [h1], j, by simpa using h2⟩
        · exact .inr ⟨by simp [h1, hkx], by simpa using h2⟩
open Classical in
theorem find_key (w : World) (k : KP) (hk : k.flat w) (es : List MapEntry) (K : List KP) (h : es.map (·.key) = K.map KP.v) (hf : ∀ x ∈ K, x.flat w) (hv : ∀ e ∈ es, e.val = .bool true) :
    (k ∈ K ∧ ∃ j, (Instr.findKey 136 k.v es).run Tryz.prog w = .ok (some (j, .bool true)) w) ∨ (k ∉ K ∧ (Instr.findKey 136 k.v es).run Tryz.prog w = .ok none w) := by
  have key := find_asking w k hk es K 0 h hf hv
  cases es with
  | nil =>
    cases K with
    | nil => exact .inr ⟨by simp, rfl⟩
    | cons _ _ => cases h
  | cons e es =>
    have e0 : (Instr.findKey 136 k.v (e :: es)).run Tryz.prog w = (Instr.findAsking 136 k.v (e :: es) 0).run Tryz.prog w := by
      simp only [Instr.findKey, Sem.run_bind, run_underlying Tryz.underlying136, Result.andThen_ok, Instr.findNow, Instr.sameNow]
    rw [e0]
    exact key
theorem check_key (em : Bool) (k : KP) (w : World) : (Instr.checkKey em 10000 136 k.v).run Tryz.prog w = .ok () w := by
  unfold KP.v
  kernel_rfl
open Classical in
/-- The set is asked. -/
theorem seen_ask {w : World} {R : Nat} {K : List KP} (h : Seen w R K) (k : KP) (hk : k.flat w) (hf : ∀ x ∈ K, x.flat w) :
    (Instr.lookup 133 (.map (some R)) k.v false).run Tryz.prog w = .ok (.bool (decide (k ∈ K))) w := by
  obtain ⟨es, clock, hb, hkeys, hv⟩ := h
  have hz : (zeroValue 4).run Tryz.prog w = .ok (.bool false) w := by kernel_rfl
  rcases find_key w k hk es.toList K hkeys hf hv with ⟨h1, j, h2⟩ | ⟨h1, h2⟩
  · simp [Instr.lookup, run_underlying Tryz.underlying133, MapKept.run_getObj_map hb, check_key, h2, Result.andThen, h1]
  · simp [Instr.lookup, run_underlying Tryz.underlying133, MapKept.run_getObj_map hb, check_key, h2, hz, Result.andThen, h1]
/-- The set takes one more. -/
theorem seen_add {w : World} {R : Nat} {K : List KP} (h : Seen w R K) (k : KP) (hk : k.flat w) (hf : ∀ x ∈ K, x.flat w) (hno : k ∉ K) :
    ∃ w', (Instr.mapUpdate 133 (.map (some R)) k.v (.bool true)).run Tryz.prog w = .ok () w' ∧ Seen w' R (K ++ [k]) ∧ w.grownBy w' (some R) ∧ w'.heap.size = w.heap.size := by
  obtain ⟨es, clock, hb, hkeys, hv⟩ := h
  have hR : R < w.heap.size := (Array.getElem?_eq_some_iff.1 hb).1
  rcases find_key w k hk es.toList K hkeys hf hv with ⟨h1, _⟩ | ⟨_, h2⟩
  · exact absurd h1 hno
  · refine ⟨{ w with heap := w.heap.setIfInBounds R (.map (es.push { key := k.v, val := .bool true, born := clock }) (clock + 1)) }, ?_, ?_, ?_, ?_⟩
    · simp [Instr.mapUpdate, run_underlying Tryz.underlying133, MapKept.run_getObj_map hb, check_key, h2, MapKept.run_setObj_map _ hb, Result.andThen]
    · refine ⟨_, _, by show (w.heap.setIfInBounds R _)[R]? = _; rw [Array.getElem?_setIfInBounds_self_of_lt hR], ?_, ?_⟩
      · simp [hkeys]
      · intro e he
        simp at he
        rcases he with he | rfl
        · exact hv e (by simpa using he)
        · rfl
    · refine ⟨rfl, rfl, rfl, by simp, fun i hi hne => ?_⟩
      show (w.heap.setIfInBounds R _)[i]? = _
      rw [Array.getElem?_setIfInBounds_ne (by intro e; exact hne (by rw [e]))]
    · simp
end Go.Proofs.YtljdbjfbcjigaaaGreatDoor

namespace Go.Proofs.YtljdbjfbcjigaaaGreatDoor
open Go.RowKit
set_option maxRecDepth 100000

/-- A pair has been compared, and its Kids wait or have. -/
def DoneP (S : List (List E × List E)) (q : E × E) : Prop := besB q.1 q.2 = true ∧ (q.1.kids = [] ∨ (q.1.kids, q.2.kids) ∈ S)
def CovP (W : List (E × E)) (S : List (List E × List E)) (q : E × E) : Prop := q ∈ W ∨ DoneP S q
structure Inv (a b : E) (W : List (E × E)) (S : List (List E × List E)) : Prop where
  top : CovP W S (a, b)
  all : ∀ p ∈ S, p.1.length = p.2.length ∧ ∀ q ∈ p.1.zip p.2, CovP W S q
  need : ∀ q ∈ W, a = b → q.1 = q.2
theorem Inv.start (a b : E) : Inv a b [(a, b)] [] := ⟨.inl (by simp), (fun p h => by cases h), (fun q h e => by simp at h; subst h; exact e)⟩
theorem besB_self (a : E) : besB a a = true := (besB_iff a a).2 ⟨rfl, rfl, rfl, rfl⟩
theorem Inv.no {a b : E} {W : List (E × E)} {q : E × E} {S : List (List E × List E)} (h : Inv a b (W ++ [q]) S) (hb : besB q.1 q.2 = false) : a ≠ b := by
  intro e
  have := h.need q (by simp) e
  rw [this, besB_self] at hb
  cases hb
theorem DoneP.more {S S' : List (List E × List E)} {q : E × E} (h : DoneP S q) (hs : ∀ p ∈ S, p ∈ S') : DoneP S' q := ⟨h.1, h.2.imp id (hs _)⟩
theorem CovP.step {W W' : List (E × E)} {S S' : List (List E × List E)} {q x : E × E} (h : CovP (W ++ [q]) S x) (hd : DoneP S' q) (hw : ∀ y ∈ W, y ∈ W') (hs : ∀ p ∈ S, p ∈ S') : CovP W' S' x := by
  rcases h with h | h
  · rcases List.mem_append.1 h with h | h
    · exact .inl (hw _ h)
    · simp at h; subst h; exact .inr hd
  · exact .inr (h.more hs)
theorem Inv.same {a b : E} {W : List (E × E)} {q : E × E} {S : List (List E × List E)} (h : Inv a b (W ++ [q]) S) (hd : DoneP S q) : Inv a b W S :=
  ⟨h.top.step hd (fun _ h => h) (fun _ h => h), fun p hp => ⟨(h.all p hp).1, fun x hx => ((h.all p hp).2 x hx).step hd (fun _ h => h) (fun _ h => h)⟩, fun x hx => h.need x (by simp [hx])⟩
theorem Inv.leaf {a b : E} {W : List (E × E)} {q : E × E} {S : List (List E × List E)} (h : Inv a b (W ++ [q]) S) (hb : besB q.1 q.2 = true) (hk : q.1.kids = []) : Inv a b W S := h.same ⟨hb, .inl hk⟩
theorem Inv.hit {a b : E} {W : List (E × E)} {q : E × E} {S : List (List E × List E)} (h : Inv a b (W ++ [q]) S) (hb : besB q.1 q.2 = true) (hm : (q.1.kids, q.2.kids) ∈ S) : Inv a b W S := h.same ⟨hb, .inr hm⟩
theorem Inv.miss {a b : E} {W : List (E × E)} {q : E × E} {S : List (List E × List E)} (h : Inv a b (W ++ [q]) S) (hb : besB q.1 q.2 = true) : Inv a b (W ++ q.1.kids.zip q.2.kids) (S ++ [(q.1.kids, q.2.kids)]) := by
  have hd : DoneP (S ++ [(q.1.kids, q.2.kids)]) q := ⟨hb, .inr (by simp)⟩
  have hl := ((besB_iff _ _).1 hb).2.2.2
  refine ⟨h.top.step hd (fun _ h => by simp [h]) (fun _ h => by simp [h]), fun p hp => ?_, fun x hx e => ?_⟩
  · rcases List.mem_append.1 hp with hp | hp
    · exact ⟨(h.all p hp).1, fun x hx => ((h.all p hp).2 x hx).step hd (fun _ h => by simp [h]) (fun _ h => by simp [h])⟩
    · simp at hp; subst hp
      exact ⟨hl, fun x hx => .inl (by simp [hx])⟩
  · rcases List.mem_append.1 hx with hx | hx
    · exact h.need x (by simp [hx]) e
    · have he := h.need q (by simp) e
      rw [he] at hx
      obtain ⟨i, hi, rfl⟩ := List.getElem_of_mem hx
      simp
theorem zip_same : ∀ (ks ls : List E), ks.length = ls.length → (∀ q ∈ ks.zip ls, q.1 = q.2) → ks = ls
  | [], [], _, _ => rfl
  | [], _ :: _, h, _ => by cases h
  | _ :: _, [], h, _ => by cases h
  | k :: ks, l :: ls, h, hq => by
    have h0 := hq (k, l) (by simp)
    rw [zip_same ks ls (by simpa using h) (fun q hm => hq q (by simp [hm]))]
    rw [show k = l from h0]
theorem Inv.done {a b : E} {S : List (List E × List E)} (h : Inv a b [] S) : a = b := by
  have main : ∀ N (q : E × E), sizeE q.1 ≤ N → DoneP S q → q.1 = q.2 := by
    intro N
    induction N with
    | zero => intro q hq; have := sizeE_pos q.1; omega
    | succ N ih =>
      rintro ⟨x, y⟩ hq ⟨hb, hk⟩
      obtain ⟨e1, e2, e3, e4⟩ := (besB_iff _ _).1 hb
      refine E.ext e1 e2 e3 ?_
      rcases hk with hk | hk
      · rw [hk] at e4 ⊢
        exact (List.length_eq_zero_iff.1 e4.symm).symm
      · refine zip_same _ _ e4 fun p hp => ?_
        have hc := (h.all _ hk).2 p hp
        rcases hc with hc | hc
        · cases hc
        · refine ih p ?_ hc
          have hm := sizeL_mem (List.of_mem_zip (a := p.1) (b := p.2) hp).1
          rw [sizeE_kids] at hq
          dsimp only at hq hm
          omega
  rcases h.top with h0 | h0
  · cases h0
  · exact main _ (a, b) (Nat.le_refl _) h0

/-- A pair that waits, with where its Kids lie. -/
structure It where
  x : E
  A : Option Addr
  c : Nat
  y : E
  B : Option Addr
  d : Nat
def It.p (i : It) : E × E := (i.x, i.y)
def It.cells (i : It) : List Value := [.int .i64 i.x.op, .int .i64 i.x.n, .string i.x.name, .slice i.A i.x.kids.length i.c, .int .i64 i.y.op, .int .i64 i.y.n, .string i.y.name, .slice i.B i.y.kids.length i.d]
def itCells : List It → List Value
  | [] => []
  | i :: l => i.cells ++ itCells l
theorem itCells_app : ∀ (l m : List It), itCells (l ++ m) = itCells l ++ itCells m
  | [], m => rfl
  | i :: l, m => by show i.cells ++ itCells (l ++ m) = i.cells ++ itCells l ++ itCells m; rw [itCells_app l m, List.append_assoc]
theorem itCells_length : ∀ (l : List It), (itCells l).length = l.length * 8
  | [] => rfl
  | i :: l => by show (i.cells ++ itCells l).length = (l.length + 1) * 8; rw [List.length_append, itCells_length l]; show 8 + _ = _; omega
theorem itCells_last (l : List It) (i : It) (j : Nat) (hj : j < 8) : (itCells (l ++ [i]))[l.length * 8 + j]? = i.cells[j]? := by
  rw [itCells_app, List.getElem?_append_right (by rw [itCells_length]; omega), itCells_length]
  have e : l.length * 8 + j - l.length * 8 = j := by omega
  rw [e]
  show (i.cells ++ [])[j]? = _
  rw [List.append_nil]
/-- How much waits. -/
def meas : List It → Nat
  | [] => 0
  | i :: l => sizeE i.x + meas l
theorem meas_app : ∀ (l m : List It), meas (l ++ m) = meas l + meas m
  | [], m => by show meas m = 0 + meas m; omega
  | i :: l, m => by show sizeE i.x + meas (l ++ m) = sizeE i.x + meas l + meas m; rw [meas_app l m]; omega
theorem meas_len : ∀ (l : List It), l.length ≤ meas l
  | [] => Nat.le_refl _
  | i :: l => by have := meas_len l; have := sizeE_pos i.x; show l.length + 1 ≤ sizeE i.x + meas l; omega
/-- The Kids of a pair lie in memory that was there before block B. -/
structure It.ok (w : World) (i : It) : Prop where
  px : PdS w (Between w 0 w.heap.size) i.x.kids i.A
  py : PdS w (Between w 0 w.heap.size) i.y.kids i.B
  sx : sizeE i.x ≤ 2000001
  sy : sizeE i.y ≤ 2000001
/-- Which lists the set's keys stand for. -/
inductive KS (w : World) : List KP → List (List E × List E) → Prop where
  | nil : KS w [] []
  | cons {k : KP} {p : List E × List E} {K : List KP} {S : List (List E × List E)} (hn : k.n = p.1.length) (hl : p.1.length = p.2.length) (h1 : PdC w (Between w 0 w.heap.size) p.1 k.b k.o) (h2 : PdC w (Between w 0 w.heap.size) p.2 k.b' k.o')
      (h3 : Between w 0 w.heap.size k.b) (h4 : Between w 0 w.heap.size k.b') (h : KS w K S) : KS w (k :: K) (p :: S)
theorem PdC_fun {w : World} {S S' : Nat → Prop} : ∀ (N : Nat) (ks ls : List E) (b o : Nat), sizeL ks ≤ N → ks.length = ls.length → PdC w S ks b o → PdC w S' ls b o → ks = ls := by
  intro N
  induction N with
  | zero =>
    intro ks ls b o hN hl _ _
    cases ks with
    | nil => exact (List.length_eq_zero_iff.1 (by simpa using hl.symm)).symm
    | cons k ks => have := sizeE_pos k; have : sizeL (k :: ks) = sizeE k + sizeL ks := rfl; omega
  | succ N ih =>
    intro ks ls b o hN hl h1 h2
    refine List.ext_getElem hl fun i hi hi' => ?_
    obtain ⟨⟨a0, a1, a2⟩, A, c, a3, hr⟩ := h1.get hi
    obtain ⟨⟨b0, b1, b2⟩, A', c', b3, hr'⟩ := h2.get hi'
    have e0 := Option.some.inj (a0.symm.trans b0)
    have e1 := Option.some.inj (a1.symm.trans b1)
    have e2 := Option.some.inj (a2.symm.trans b2)
    have e3 := Option.some.inj (a3.symm.trans b3)
    injection e0 with _ e0
    injection e1 with _ e1
    injection e2 with e2
    injection e3 with e3 e4 _
    subst e3
    refine E.ext e0 e1 e2 ?_
    rcases hr with h | ⟨bb, oo, eA, _, hc⟩
    · rw [h] at e4 ⊢
      exact (List.length_eq_zero_iff.1 e4.symm).symm
    · rcases hr' with h | ⟨bb', oo', eA', _, hc'⟩
      · rw [h] at e4 ⊢
        exact List.length_eq_zero_iff.1 e4
      · rw [eA] at eA'
        injection eA' with eA'
        injection eA' with e5 e6
        subst e5; subst e6
        refine ih _ _ _ _ ?_ e4 hc hc'
        have := sizeL_get hi
        rw [sizeE_kids] at this
        omega
theorem KS.find {w : World} {K : List KP} {S : List (List E × List E)} (h : KS w K S) {k : KP} (hk : k ∈ K) {ks ls : List E} (hn : k.n = ks.length) (hl : ks.length = ls.length) {T T' : Nat → Prop} (h1 : PdC w T ks k.b k.o) (h2 : PdC w T' ls k.b' k.o') : (ks, ls) ∈ S := by
  induction h with
  | nil => cases hk
  | @cons k0 p K S hn0 hl0 g1 g2 _ _ _ ih =>
    rcases List.mem_cons.1 hk with rfl | hk
    · have e1 : ks = p.1 := PdC_fun _ _ _ _ _ (Nat.le_refl _) (by omega) h1 g1
      have e2 : ls = p.2 := PdC_fun _ _ _ _ _ (Nat.le_refl _) (by omega) h2 g2
      rw [e1, e2]; simp
    · simp [ih hk]
theorem KS.snoc {w : World} {K : List KP} {S : List (List E × List E)} (h : KS w K S) {k : KP} {ks ls : List E} (hn : k.n = ks.length) (hl : ks.length = ls.length) (h1 : PdC w (Between w 0 w.heap.size) ks k.b k.o) (h2 : PdC w (Between w 0 w.heap.size) ls k.b' k.o')
    (h3 : Between w 0 w.heap.size k.b) (h4 : Between w 0 w.heap.size k.b') : KS w (K ++ [k]) (S ++ [(ks, ls)]) := by
  induction h with
  | nil => exact .cons hn hl h1 h2 h3 h4 .nil
  | cons a b c d e f _ ih => exact .cons a b c d e f ih
theorem KS.flat {w w' : World} {K : List KP} {S : List (List E × List E)} (h : KS w K S) (hb : Below w.heap.size w w') : ∀ k ∈ K, k.flat w' := by
  induction h with
  | nil => intro k hk; cases hk
  | @cons k0 p K S _ _ _ _ h3 h4 _ ih =>
    intro k hk
    rcases List.mem_cons.1 hk with rfl | hk
    · exact ⟨h3.2.2.below hb h3.2.1, h4.2.2.below hb h4.2.1⟩
    · exact ih k hk
end Go.Proofs.YtljdbjfbcjigaaaGreatDoor
