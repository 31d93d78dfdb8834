/-
  Which expressions are valid: the program's tests.
-/
import Derived.Test.YtkhcfhhejmkikaaGreatDoorMg2
import Derived.Test.YtkhcfhhejmkikaaGreatDoorMg4
import Derived.Test.YtkhcfhhejmkikaaGreatDoorMg7
import Derived.Laws.BytesArg
import Derived.Laws.BitsAllLaws
import Derived.Laws.BitsLemmas
import Derived.OpenShut
import Derived.Deep.RegionHeld3
import Derived.Deep.DeepCutAuto
import Derived.Deep.CutBlock
namespace Go.Proofs.YtkhcfhhejmkikaaGreatDoor
open Go.RowKit
set_option maxRecDepth 100000

/-- A slice of texts that reads as a list; below block B. -/
def Strs (w : World) (B : Nat) (A : Option Addr) (ss : List ByteArray) : Prop :=
  ss ≠ [] → ∃ b o, A = some ⟨b, o, none⟩ ∧ b < B ∧ ∀ k, (h : k < ss.length) → w.cell? ⟨b, o + k, none⟩ = some (.string ss[k])
theorem Strs.at_ {w : World} {B : Nat} {A : Option Addr} {ss : List ByteArray} (h : Strs w B A ss) {k : Nat} (hk : k < ss.length) :
    ∃ b o, A = some ⟨b, o, none⟩ ∧ b < B ∧ w.cell? ⟨b, o + k, none⟩ = some (.string ss[k]) := by
  obtain ⟨b, o, e, hb, hc⟩ := h (by intro e; subst e; simp at hk)
  exact ⟨b, o, e, hb, hc k hk⟩
theorem Strs.below {w w' : World} {B : Nat} {A : Option Addr} {ss : List ByteArray} (h : Strs w B A ss) (hb : Below B w w') : Strs w' B A ss := by
  intro hne
  obtain ⟨b, o, e, hB, hc⟩ := h hne
  exact ⟨b, o, e, hB, fun k hk => (hb.cell (p := ⟨b, _, none⟩) hB).trans (hc k hk)⟩
theorem Strs.more {w : World} {B B' : Nat} {A : Option Addr} {ss : List ByteArray} (h : Strs w B A ss) (hB : B ≤ B') : Strs w B' A ss := by
  intro hne
  obtain ⟨b, o, e, hb, hc⟩ := h hne
  exact ⟨b, o, e, by omega, hc⟩


/-- The program's table of keys stands in the world. -/
structure KTab (w : World) : Prop where
  size : 1 ≤ w.heap.size
  keys : ∃ t fr, w.heap[2]? = some (.cells (keyL.map fun k => Value.string ⟨k.toArray⟩).toArray t fr)
theorem KTab.below {w w' : World} (T : KTab w) (hb : Below w.heap.size w w') : KTab w' := by
  obtain ⟨t, fr, hk⟩ := T.keys
  have hsz := T.size
  exact ⟨by have := hb.size; omega, t, fr, by rw [hb.block _ (Array.getElem?_eq_some_iff.1 hk).1]; exact hk⟩
/-- The keys' cells, and the block that the program's KeyWords makes. -/
def keyCells : List Value := keyL.map fun k => Value.string ⟨k.toArray⟩
def keyArr : Obj := .cells keyCells.toArray 147 (0, 0)
theorem keyCells_at : ∀ k, k < 9 → keyCells[k]? = some (.string (keyB k)) := by
  intro k hk
  have h : k = 0 ∨ k = 1 ∨ k = 2 ∨ k = 3 ∨ k = 4 ∨ k = 5 ∨ k = 6 ∨ k = 7 ∨ k = 8 := by omega
  rcases h with rfl | rfl | rfl | rfl | rfl | rfl | rfl | rfl | rfl <;> rfl
def keyS : List ByteArray := keyL.map fun k => ⟨k.toArray⟩
theorem keyS_len : keyS.length = 9 := rfl
theorem keyS_self : decide (keyS = keyS) = true := by simp
theorem keyS_at (k : Nat) (h : k < keyS.length) : keyS[k] = keyB k := by
  have h' : k < 9 := h
  have h : k = 0 ∨ k = 1 ∨ k = 2 ∨ k = 3 ∨ k = 4 ∨ k = 5 ∨ k = 6 ∨ k = 7 ∨ k = 8 := by omega
  rcases h with rfl | rfl | rfl | rfl | rfl | rfl | rfl | rfl | rfl <;> rfl
theorem keyArr_own (w : World) (base : Nat) (hb : base ≤ w.heap.size) : (w.alloc keyArr).ownsRow base 147 1 (.slice (some ⟨w.heap.size, 0, none⟩) 9 9) 9 keyCells := by
  refine ⟨rfl, .inr ⟨w.heap.size, 9, keyCells.toArray, rfl, hb, ?_, Nat.le_refl _, by unfold maxLen; omega, rfl, rfl⟩⟩
  show (w.heap.push keyArr)[w.heap.size]? = _
  simp [keyArr]
theorem strs_of_own {w : World} {base e g cap : Nat} {ss : List ByteArray} {xs : List Value} {n : Nat} (h : w.ownsRow base e 1 (.slice (some ⟨g, 0, none⟩) n cap) n xs) (hn : ss.length = n) (hx : ∀ k, (h : k < ss.length) → xs[k]? = some (.string ss[k])) : Strs w w.heap.size (some ⟨g, 0, none⟩) ss := by
  intro _
  refine ⟨g, 0, rfl, (h.lt g rfl).2, fun k hk => ?_⟩
  rw [Nat.zero_add, h.cellAt k (by omega), hx k hk]
theorem keyBlock_strs (w : World) : Strs (w.alloc keyBlock) (w.alloc keyBlock).heap.size (some ⟨w.heap.size, 0, none⟩) keyS := by
  intro _
  refine ⟨w.heap.size, 0, rfl, by show _ < (w.heap.push keyBlock).size; simp, fun k hk => ?_⟩
  rw [Nat.zero_add, keyBlock_cell w k hk, keyS_at k hk]

end Go.Proofs.YtkhcfhhejmkikaaGreatDoor

namespace Go.Proofs.YtkhcfhhejmkikaaGreatDoor
open Go.RowKit
set_option maxRecDepth 100000

/-- Bytes that can be read, below block B. -/
def Bytes (w : World) (B : Nat) (A : Option Addr) (l : List UInt8) : Prop :=
  l ≠ [] → ∃ b o, A = some ⟨b, o, none⟩ ∧ b < B ∧ ∀ k, (h : k < l.length) → w.cell? ⟨b, o + k, none⟩ = some (.int .u8 l[k].toNat)
theorem Bytes.at_ {w : World} {B : Nat} {A : Option Addr} {l : List UInt8} (h : Bytes w B A l) {k : Nat} (hk : k < l.length) :
    ∃ b o, A = some ⟨b, o, none⟩ ∧ b < B ∧ ∀ j, (h : j < l.length) → w.cell? ⟨b, o + j, none⟩ = some (.int .u8 l[j].toNat) := h (by intro e; subst e; simp at hk)
theorem Bytes.below {w w' : World} {B : Nat} {A : Option Addr} {l : List UInt8} (h : Bytes w B A l) (hb : Below B w w') : Bytes w' B A l := by
  intro hne
  obtain ⟨b, o, e, hB, hc⟩ := h hne
  exact ⟨b, o, e, hB, fun k hk => (hb.cell (p := ⟨b, _, none⟩) hB).trans (hc k hk)⟩
/-- A reader at block R behind p picks. -/
structure Rd (w : World) (R : Nat) (p : Nat) : Prop where
  ex : ∃ A l cap, l.length ≤ 2000 ∧ w.heap[R]? = some (.cells #[.slice A l.length cap, .int .i64 (p : Int)] 88 (0, 0)) ∧ Bytes w R A l
theorem Rd.lt {w : World} {R p : Nat} (h : Rd w R p) : R < w.heap.size := by
  obtain ⟨A, l, cap, _, h1, _⟩ := h.ex
  exact (Array.getElem?_eq_some_iff.1 h1).1
theorem Rd.keep {w w' : World} {R p : Nat} (h : Rd w R p) (hb : Below w.heap.size w w') : Rd w' R p := by
  have hlt := h.lt
  obtain ⟨A, l, cap, h0, h1, h2⟩ := h.ex
  exact ⟨A, l, cap, h0, by rw [hb.block R hlt]; exact h1, h2.below (hb.mono (by omega))⟩
/-- The world behind a pick: the reader has gone on, and nothing else has turned. -/
def pickW (w : World) (R p q : Nat) : World := (w.setCell ⟨R, 1, none⟩ (.int .i64 ((p + 1 : Nat) : Int))).drewN q
theorem Rd.pick {w : World} {R p : Nat} (h : Rd w R p) (q : Nat) : Rd (pickW w R p q) R (p + 1) := by
  obtain ⟨A, l, cap, h0, h1, h2⟩ := h.ex
  refine ⟨A, l, cap, h0, ?_, ?_⟩
  · show (w.setCell ⟨R, 1, none⟩ _).heap[R]? = _
    rw [heap_setCell_same w R 1 _ _ _ h1]
    rfl
  · have hb : Below R w (pickW w R p q) := below_drewN ((Below.refl R w).setCell (Nat.le_refl _) _) q
    exact h2.below hb
def PickRet (R p n : Nat) (w : World) (e : Ending) (w' : World) : Prop := ∃ r : Nat, r < n ∧ e = .returned (.int .i64 (r : Int)) ∧ ∃ q, w' = pickW w R p q

theorem i64_xor_nat (a b : Nat) (ha : a < 4611686018427387904) (hb : b < 4611686018427387904) : bits .xor .i64 (a : Int) (b : Int) = ((a ^^^ b : Nat) : Int) := by
  have hx : a ^^^ b < 2 ^ 62 := Nat.xor_lt_two_pow (by omega) (by omega)
  show IntKind.i64.wrap ((BitVec.ofInt 64 (a : Int) ^^^ BitVec.ofInt 64 (b : Int)).toNat : Int) = _
  rw [BitVec.toNat_xor, ofInt_u64 a (by omega), ofInt_u64 b (by omega), IntKind.wrap_i64]
  omega

set_option maxHeartbeats 2000000 in
theorem pick_any (R p n : Nat) (w : World) (h : Rd w R p) (hp : p ≤ 1000000) (hn1 : 1 ≤ n) (hn2 : n ≤ 1000) :
    Calls Tryz.prog 46 #[.pointer (some ⟨R, 0, none⟩), .int .i64 (n : Int)] w (PickRet R p n w) := by
  obtain ⟨A, l, cap, hl, hR, hB⟩ := h.ex
  have c0 : w.cell? ⟨R, 0, none⟩ = some (.slice A l.length cap) := by unfold World.cell?; rw [hR]; rfl
  have c1 : w.cell? ⟨R, 1, none⟩ = some (.int .i64 (p : Int)) := by unfold World.cell?; rw [hR]; rfl
  have f1 : w.frozen? ⟨R, 1, none⟩ = false := frozen_of_row w R 1 _ _ hR
  have HR := Lib.hid hR
  clear hR h
  have hq0 : (w.setCell ⟨R, 1, none⟩ (.int .i64 ((p : Int) + 1))) = pickW w R p 0 := rfl
  by_cases hz : l.length = 0
  · have e1 : ((l.length : Int) == 0) = true := by rw [beq_iff_eq]; omega
    have HQ := Lib.hid hq0
    clear hz hq0 hB
    go_enter Tryz.func46, Tryz.ntmps46
    go_wp2
    go_ret
    exact ⟨0, by omega, rfl, 0, HQ.out⟩
  have e1 : ((l.length : Int) == 0) = false := by rw [beq_eq_false_iff_ne]; omega
  have hlpos : 0 < l.length := by omega
  clear hz
  by_cases hpl : p < l.length
  · obtain ⟨b, o, rfl, hbR, hc⟩ := hB.at_ hpl
    have hcp := hc p hpl
    have hv := (l[p]).toNat_lt
    generalize (l[p]).toNat = z at *
    have HQ := Lib.hid hq0
    clear hq0 hB hc
    go_enter Tryz.func46, Tryz.ntmps46
    go_wp2
    go_ways
    go_ret
    refine ⟨z % n, Nat.mod_lt _ (by omega), rfl, 0, HQ.out⟩
  · obtain ⟨b, o, rfl, hbR, hc⟩ := hB.at_ hlpos
    have hq1 : p % l.length < l.length := Nat.mod_lt _ hlpos
    have hq2 : (p * 7 + 3) % l.length < l.length := Nat.mod_lt _ hlpos
    have hc1 := hc _ hq1
    have hc2 := hc _ hq2
    have hv1 := (l[p % l.length]).toNat_lt
    have hv2 := (l[(p * 7 + 3) % l.length]).toNat_lt
    generalize (l[p % l.length]).toNat = z1 at *
    generalize (l[(p * 7 + 3) % l.length]).toNat = z2 at *
    have t1 : (p : Int).tmod (l.length : Int) = ((p % l.length : Nat) : Int) := by rw [Int.tmod_eq_emod_of_nonneg (by omega)]; rfl
    have t2 : ((p : Int) * 7 + 3).tmod (l.length : Int) = (((p * 7 + 3) % l.length : Nat) : Int) := by rw [Int.tmod_eq_emod_of_nonneg (by omega)]; rfl
    have t3 : (p : Int).tdiv (l.length : Int) = ((p / l.length : Nat) : Int) := by rw [Int.tdiv_eq_ediv_of_nonneg (by omega)]; rfl
    have hq3 : p / l.length ≤ p := Nat.div_le_self _ _
    generalize p % l.length = q1 at *
    generalize (p * 7 + 3) % l.length = q2 at *
    generalize p / l.length = q3 at *
    have hne : ¬ ((l.length : Int) = 0) := by omega
    have HQ := Lib.hid hq0
    have hpl' : l.length ≤ p := by omega
    clear hq0 hB hc hpl
    go_enter Tryz.func46, Tryz.ntmps46
    go_wp2
    go_quiet (fail)
    go_wp2
    have hx : ∃ X : Nat, bits BinOp.xor IntKind.i64 ((z1 : Int) * 131 + z2 * 1117 + p * 29 + q3 * 53) (((z1 : Int) * 131 + z2 * 1117 + p * 29 + q3 * 53) / 64) = (X : Int) :=
      ⟨_, i64_xor_nat (z1 * 131 + z2 * 1117 + p * 29 + q3 * 53) ((z1 * 131 + z2 * 1117 + p * 29 + q3 * 53) / 64) (by omega) (by omega)⟩
    obtain ⟨X, hX⟩ := hx
    have hX' : ((X : Int)).tmod (n : Int) = ((X % n : Nat) : Int) := by rw [Int.tmod_eq_emod_of_nonneg (by omega)]; rfl
    rw [hX, hX']
    go_ret
    exact ⟨X % n, Nat.mod_lt _ (by omega), rfl, nq, rfl⟩
end Go.Proofs.YtkhcfhhejmkikaaGreatDoor

namespace Go.Proofs.YtkhcfhhejmkikaaGreatDoor
open Go.ChangeShapes Go.WideShapes Go.ChangeAt Go.RowKit Go.WideMaps Go.Deep

section
variable {H : Type} {enc : TypeId × Value → H} {P : Program} {w : World} {base : Nat} {spare : Nat → Bool} {held : Bool}
theorem open_byteS {r : Reach} {b0 : Nat} {t e : TypeId} {v : Value} {d : DataW H} {p : List MemPlace} (ht : P.underlying t = some (.slice e)) (he : P.underlying e = some (.int .u8)) (hC : P.cellsOf e = 1)
    (hv : Value.okWide P w r b0 t v) (h : DataW.Trod enc P w base spare held t v d p) :
    ∃ (A : Option Addr) (l : List UInt8) (cap : Nat), v = .slice A l.length cap ∧ Bytes w w.heap.size A l ∧ l.length ≤ cap ∧ cap ≤ 9223372036854775807 := by
  obtain ⟨A, len, cap, rfl⟩ := okWide_slice ht hv
  obtain ⟨fuel, hf⟩ := h
  rcases open_ints ht he hC hf with ⟨hcs, hx⟩ | ⟨a, len', cap', zs, hcs, _, hl, hm, hz, hx, hcell, hwz⟩
  · simp only [Value.cells, List.cons.injEq, Value.slice.injEq, and_true] at hcs
    obtain ⟨rfl, rfl, rfl⟩ := hcs
    exact ⟨none, [], 0, rfl, fun h => absurd rfl h, Nat.le_refl _, by simp⟩
  · simp only [Value.cells, List.cons.injEq, Value.slice.injEq, and_true] at hcs
    obtain ⟨rfl, rfl, rfl⟩ := hcs
    have hlz : len ≤ zs.length := by rw [hz]; split <;> omega
    have hlen : ((zs.take len).map fun n => UInt8.ofNat n.toNat).length = len := by simp; omega
    refine ⟨some a, (zs.take len).map fun n => UInt8.ofNat n.toNat, cap, by rw [hlen], fun hne => ?_, by rw [hlen]; exact hl, by unfold maxLen at hm; omega⟩
    have h0 : 0 < len := by
      rcases Nat.eq_zero_or_pos len with h | h
      · subst h; exact absurd (by simp) hne
      · exact h
    have c0 := hcell 0 (by omega)
    obtain ⟨ea, eb⟩ := cell_addr c0
    obtain ⟨b, o, x⟩ := a
    have hx0 : x = none := by
      have e0 : (⟨b, o, x⟩ : Addr).add 0 = ⟨b, o, x⟩ := by simp [Addr.add]
      rw [e0] at ea
      injection ea
    subst hx0
    have hadd : ∀ j, (⟨b, o, none⟩ : Addr).add j = ⟨b, o + j, none⟩ := by
      intro j
      unfold Addr.add
      by_cases hj : j = 0
      · rw [if_pos hj, hj, Nat.add_zero]
      · rw [if_neg hj]
    refine ⟨b, o, rfl, by have := hadd 0; rw [this] at eb; exact eb, fun k hk => ?_⟩
    rw [hlen] at hk
    have hck := hcell k (by omega)
    rw [hadd] at hck
    rw [hck]
    have hb := range_u8 hwz k
    have e1 : zs[k]? = some (zs[k]'(by omega)) := List.getElem?_eq_getElem (by omega)
    rw [e1] at hb
    simp only [List.getElem_map, List.getElem_take]
    have e2 : zs.getD k 0 = zs[k]'(by omega) := by rw [List.getD_eq_getElem?_getD, e1]; rfl
    rw [e2]
    replace hb : 0 ≤ zs[k]'(by omega) ∧ zs[k]'(by omega) ≤ 255 := hb
    congr 2
    simp only [UInt8.toNat_ofNat']
    omega
end
end Go.Proofs.YtkhcfhhejmkikaaGreatDoor

namespace Go.Proofs.YtkhcfhhejmkikaaGreatDoor
open Go.RowKit
set_option maxRecDepth 100000

theorem below_drewN {B : Nat} {a w : World} (h : Below B a w) (q : Nat) : Below B a (w.drewN q) := ⟨h.os, h.tape, h.output, h.size, h.block⟩
set_option maxHeartbeats 1000000 in
theorem fitsWithin_zero (e : E) (A : Option Addr) (cap : Nat) (w : World) :
    Calls Tryz.prog 44 #[exV e A cap, .int .i64 0] w (BoolB (formE 0 e) w) := by
  unfold exV
  have hb := (Below.refl w.heap.size w).alloc (Nat.le_refl _) (.cells #[.int .i64 e.op, .int .i64 e.n, .string e.name, .slice A e.kids.length cap] 24)
  go_enter Tryz.func44, Tryz.ntmps44
  go_wp2
  go_quiet (fail)
  go_wp2
  go_ret
  exact ⟨rfl, below_drewN hb _⟩
/-- What the first test of fitsWithin leaves. -/
def FitsLeft (b : Bool) (v : Value) (w wx : World) (op n : Int) (s : ByteArray) (sl : Value) : Prop :=
  v = .bool b ∧ Below w.heap.size w wx ∧ w.heap.size < wx.heap.size ∧ wx.cell? ⟨w.heap.size, 0, none⟩ = some (.int .i64 op) ∧ wx.cell? ⟨w.heap.size, 1, none⟩ = some (.int .i64 n) ∧ wx.cell? ⟨w.heap.size, 2, none⟩ = some (.string s) ∧ wx.cell? ⟨w.heap.size, 3, none⟩ = some sl
set_option maxHeartbeats 1000000 in
theorem fitsWithin_succ (d : Nat) (hd : d < 100) (e : E) (A : Option Addr) (cap : Nat) (w : World) (hR : RdS w w.heap.size e.kids A) (T : Tabs w) (G : Sgn w) (hl : sizeE e ≤ 2000000)
    (ih : ∀ (e : E) (A : Option Addr) (cap : Nat) (w : World), RdS w w.heap.size e.kids A → Tabs w → Sgn w → sizeE e ≤ 2000000 → Calls Tryz.prog 44 #[exV e A cap, .int .i64 d] w (BoolB (formE d e) w)) :
    Calls Tryz.prog 44 #[exV e A cap, .int .i64 ((d : Int) + 1)] w (BoolB (formE (d + 1) e) w) := by
  have IH := Lib.hid ih
  clear ih
  have HR := Lib.hid hR
  clear hR
  have q1 : (((d : Int) + 1) == 0) = false := by rw [beq_eq_false_iff_ne]; omega
  unfold exV at IH ⊢
  obtain ⟨op, n, s, ks⟩ := e
  have hl0 : 1 + sizeL ks ≤ 2000000 := hl
  have hll := length_le_sizeL ks
  replace hl : ks.length ≤ 2000000 := by omega
  dsimp only [E.op, E.n, E.name, E.kids] at *
  have hb := (Below.refl w.heap.size w).alloc (Nat.le_refl _) (.cells #[.int .i64 op, .int .i64 n, .string s, .slice A ks.length cap] 24)
  have KO0 := fun W h => kindOf_any op W h
  have TT := fun W h => T.below (w' := W) h
  have TG := fun W h => G.below (w' := W) h
  have TK := Lib.hid (And.intro TT TG)
  clear T G TT TG
  have c0 : (w.alloc (.cells #[.int .i64 op, .int .i64 n, .string s, .slice A ks.length cap] 24)).cell? ⟨w.heap.size, 0, none⟩ = some (.int .i64 op) := alloc_cell w _ _ _ 0
  have c1 : (w.alloc (.cells #[.int .i64 op, .int .i64 n, .string s, .slice A ks.length cap] 24)).cell? ⟨w.heap.size, 1, none⟩ = some (.int .i64 n) := alloc_cell w _ _ _ 1
  have c2 : (w.alloc (.cells #[.int .i64 op, .int .i64 n, .string s, .slice A ks.length cap] 24)).cell? ⟨w.heap.size, 2, none⟩ = some (.string s) := alloc_cell w _ _ _ 2
  have c3 : (w.alloc (.cells #[.int .i64 op, .int .i64 n, .string s, .slice A ks.length cap] 24)).cell? ⟨w.heap.size, 3, none⟩ = some (.slice A ks.length cap) := alloc_cell w _ _ _ 3
  have hlt : w.heap.size < (w.alloc (.cells #[.int .i64 op, .int .i64 n, .string s, .slice A ks.length cap] 24)).heap.size := by rw [World.size_alloc]; omega
  go_enter Tryz.func44, Tryz.ntmps44
  go_wp2
  have C0 := Lib.hid c0
  have C1 := Lib.hid c1
  have C2 := Lib.hid c2
  have C3 := Lib.hid c3
  have HB := Lib.hid hb
  have HLT := Lib.hid hlt
  generalize w.alloc (.cells #[.int .i64 op, .int .i64 n, .string s, .slice A ks.length cap] 24) = wa at *
  go_upto_region 1 with (fail)
  go_cut [16] (fun v wx => FitsLeft (!fitB op n s ks.length) v w wx op n s (.slice A ks.length cap))
  case first =>
    have hkind : op = 1 ∨ op = 2 ∨ op = 13 ∨ (op = 11 ∨ op = 12) ∨ (3 ≤ op ∧ op ≤ 10) ∨ ¬ (1 ≤ op ∧ op ≤ 13) := by omega
    have TB0 := fun W (h : Below wa.heap.size wa W) => TK.out.1 W (hb.trans (h.mono (Nat.le_of_lt hlt)))
    have TB := Lib.hid TB0
    clear IH HR C0 C1 C2 C3 HB HLT TB0
    rcases hkind with rfl | rfl | rfl | ho | ho | ho
    · skip
      have e1 : kindV 1 = .iface 94 (.agg #[]) := rfl
      rw [e1] at KO0
      have KO := fun W h => Lib.hid (KO0 W h)
      clear e1 KO0
      go_region_held3 (fun u => u.cell? ⟨w.heap.size, 0, none⟩ = some (.int .i64 1) ∧ u.cell? ⟨w.heap.size, 1, none⟩ = some (.int .i64 n) ∧ u.cell? ⟨w.heap.size, 2, none⟩ = some (.string s) ∧ u.cell? ⟨w.heap.size, 3, none⟩ = some (.slice A ks.length cap)) (go_keep)
        (first
          | (go_at_call 70; (with_reducible refine Calls.mono (KO _ (TK.out.2 _ hb.drew)).out ?_); rintro ee w1 ⟨rfl, hb1⟩; have l1 : w.heap.size < w1.heap.size := Nat.lt_of_lt_of_le hlt hb1.size; have tb := Lib.hid (TB.out _ ((Below.refl _ wa).drew.trans hb1)); have g0 := (hb1.cell (p := ⟨w.heap.size, 0, none⟩) hlt).trans c0; have g1 := (hb1.cell (p := ⟨w.heap.size, 1, none⟩) hlt).trans c1; have g2 := (hb1.cell (p := ⟨w.heap.size, 2, none⟩) hlt).trans c2; have g3 := (hb1.cell (p := ⟨w.heap.size, 3, none⟩) hlt).trans c3)
          | (go_at_call 161; (with_reducible refine Calls.mono (fits_number n s 1 A ks.length cap _ (by omega)) ?_); rintro ee w2 ⟨rfl, hb2⟩; have k0 := (hb2.cell (p := ⟨w.heap.size, 0, none⟩) l1).trans g0; have k1 := (hb2.cell (p := ⟨w.heap.size, 1, none⟩) l1).trans g1; have k2 := (hb2.cell (p := ⟨w.heap.size, 2, none⟩) l1).trans g2; have k3 := (hb2.cell (p := ⟨w.heap.size, 3, none⟩) l1).trans g3))
      all_goals
        have hb3 := (hb.drew.trans (hb1.mono (Nat.le_of_lt hlt))).trans (hb2.mono (Nat.le_trans (Nat.le_of_lt hlt) hb1.size))
        have hlt3 := Nat.lt_of_lt_of_le l1 hb2.size
        go_wp2
        go_meet
        exact ⟨rfl, hb3, hlt3, k0, k1, k2, k3⟩
    · skip
      have e1 : kindV 2 = .iface 96 (.agg #[]) := rfl
      rw [e1] at KO0
      have KO := fun W h => Lib.hid (KO0 W h)
      clear e1 KO0
      go_region_held3 (fun u => u.cell? ⟨w.heap.size, 0, none⟩ = some (.int .i64 2) ∧ u.cell? ⟨w.heap.size, 1, none⟩ = some (.int .i64 n) ∧ u.cell? ⟨w.heap.size, 2, none⟩ = some (.string s) ∧ u.cell? ⟨w.heap.size, 3, none⟩ = some (.slice A ks.length cap)) (go_keep)
        (first
          | (go_at_call 70; (with_reducible refine Calls.mono (KO _ (TK.out.2 _ hb.drew)).out ?_); rintro ee w1 ⟨rfl, hb1⟩; have l1 : w.heap.size < w1.heap.size := Nat.lt_of_lt_of_le hlt hb1.size; have tb := Lib.hid (TB.out _ ((Below.refl _ wa).drew.trans hb1)); have g0 := (hb1.cell (p := ⟨w.heap.size, 0, none⟩) hlt).trans c0; have g1 := (hb1.cell (p := ⟨w.heap.size, 1, none⟩) hlt).trans c1; have g2 := (hb1.cell (p := ⟨w.heap.size, 2, none⟩) hlt).trans c2; have g3 := (hb1.cell (p := ⟨w.heap.size, 3, none⟩) hlt).trans c3)
          | (go_at_call 163; (with_reducible refine Calls.mono (fits_variable n s 2 A ks.length cap _ tb.out) ?_); rintro ee w2 ⟨rfl, hb2⟩; have k0 := (hb2.cell (p := ⟨w.heap.size, 0, none⟩) l1).trans g0; have k1 := (hb2.cell (p := ⟨w.heap.size, 1, none⟩) l1).trans g1; have k2 := (hb2.cell (p := ⟨w.heap.size, 2, none⟩) l1).trans g2; have k3 := (hb2.cell (p := ⟨w.heap.size, 3, none⟩) l1).trans g3))
      all_goals
        have hb3 := (hb.drew.trans (hb1.mono (Nat.le_of_lt hlt))).trans (hb2.mono (Nat.le_trans (Nat.le_of_lt hlt) hb1.size))
        have hlt3 := Nat.lt_of_lt_of_le l1 hb2.size
        go_wp2
        go_meet
        exact ⟨rfl, hb3, hlt3, k0, k1, k2, k3⟩
    · skip
      have e1 : kindV 13 = .iface 103 (.agg #[]) := rfl
      rw [e1] at KO0
      have KO := fun W h => Lib.hid (KO0 W h)
      clear e1 KO0
      go_region_held3 (fun u => u.cell? ⟨w.heap.size, 0, none⟩ = some (.int .i64 13) ∧ u.cell? ⟨w.heap.size, 1, none⟩ = some (.int .i64 n) ∧ u.cell? ⟨w.heap.size, 2, none⟩ = some (.string s) ∧ u.cell? ⟨w.heap.size, 3, none⟩ = some (.slice A ks.length cap)) (go_keep)
        (first
          | (go_at_call 70; (with_reducible refine Calls.mono (KO _ (TK.out.2 _ hb.drew)).out ?_); rintro ee w1 ⟨rfl, hb1⟩; have l1 : w.heap.size < w1.heap.size := Nat.lt_of_lt_of_le hlt hb1.size; have tb := Lib.hid (TB.out _ ((Below.refl _ wa).drew.trans hb1)); have g0 := (hb1.cell (p := ⟨w.heap.size, 0, none⟩) hlt).trans c0; have g1 := (hb1.cell (p := ⟨w.heap.size, 1, none⟩) hlt).trans c1; have g2 := (hb1.cell (p := ⟨w.heap.size, 2, none⟩) hlt).trans c2; have g3 := (hb1.cell (p := ⟨w.heap.size, 3, none⟩) hlt).trans c3)
          | (go_at_call 168; (with_reducible refine Calls.mono (fits_call n s 13 A ks.length cap _ (by omega) tb.out) ?_); rintro ee w2 ⟨rfl, hb2⟩; have k0 := (hb2.cell (p := ⟨w.heap.size, 0, none⟩) l1).trans g0; have k1 := (hb2.cell (p := ⟨w.heap.size, 1, none⟩) l1).trans g1; have k2 := (hb2.cell (p := ⟨w.heap.size, 2, none⟩) l1).trans g2; have k3 := (hb2.cell (p := ⟨w.heap.size, 3, none⟩) l1).trans g3))
      all_goals
        have hb3 := (hb.drew.trans (hb1.mono (Nat.le_of_lt hlt))).trans (hb2.mono (Nat.le_trans (Nat.le_of_lt hlt) hb1.size))
        have hlt3 := Nat.lt_of_lt_of_le l1 hb2.size
        go_wp2
        go_meet
        exact ⟨rfl, hb3, hlt3, k0, k1, k2, k3⟩
    · have HO := Lib.hid ho; clear ho
      have e1 : kindV op = .iface 102 (.agg #[.int .i64 op, .string (sgnS op), .int .i64 (lvl op : Int)]) := kindV_un HO.out
      rw [e1] at KO0
      have KO := fun W h => Lib.hid (KO0 W h)
      clear e1 KO0
      go_region_held3 (fun u => u.cell? ⟨w.heap.size, 0, none⟩ = some (.int .i64 op) ∧ u.cell? ⟨w.heap.size, 1, none⟩ = some (.int .i64 n) ∧ u.cell? ⟨w.heap.size, 2, none⟩ = some (.string s) ∧ u.cell? ⟨w.heap.size, 3, none⟩ = some (.slice A ks.length cap)) (go_keep)
        (first
          | (go_at_call 70; (with_reducible refine Calls.mono (KO _ (TK.out.2 _ hb.drew)).out ?_); rintro ee w1 ⟨rfl, hb1⟩; have l1 : w.heap.size < w1.heap.size := Nat.lt_of_lt_of_le hlt hb1.size; have tb := Lib.hid (TB.out _ ((Below.refl _ wa).drew.trans hb1)); have g0 := (hb1.cell (p := ⟨w.heap.size, 0, none⟩) hlt).trans c0; have g1 := (hb1.cell (p := ⟨w.heap.size, 1, none⟩) hlt).trans c1; have g2 := (hb1.cell (p := ⟨w.heap.size, 2, none⟩) hlt).trans c2; have g3 := (hb1.cell (p := ⟨w.heap.size, 3, none⟩) hlt).trans c3)
          | (go_at_call 166; (with_reducible refine Calls.mono (fits_ahead op _ _ n s op A ks.length cap _ (by omega) HO.out) ?_); rintro ee w2 ⟨rfl, hb2⟩; have k0 := (hb2.cell (p := ⟨w.heap.size, 0, none⟩) l1).trans g0; have k1 := (hb2.cell (p := ⟨w.heap.size, 1, none⟩) l1).trans g1; have k2 := (hb2.cell (p := ⟨w.heap.size, 2, none⟩) l1).trans g2; have k3 := (hb2.cell (p := ⟨w.heap.size, 3, none⟩) l1).trans g3))
      all_goals
        have hb3 := (hb.drew.trans (hb1.mono (Nat.le_of_lt hlt))).trans (hb2.mono (Nat.le_trans (Nat.le_of_lt hlt) hb1.size))
        have hlt3 := Nat.lt_of_lt_of_le l1 hb2.size
        go_wp2
        go_meet
        exact ⟨rfl, hb3, hlt3, k0, k1, k2, k3⟩
    · have HO := Lib.hid ho; clear ho
      have e1 : kindV op = .iface 100 (.agg #[.int .i64 op, .string (sgnS op), .int .i64 (lvl op : Int)]) := kindV_bin HO.out
      rw [e1] at KO0
      have KO := fun W h => Lib.hid (KO0 W h)
      clear e1 KO0
      go_region_held3 (fun u => u.cell? ⟨w.heap.size, 0, none⟩ = some (.int .i64 op) ∧ u.cell? ⟨w.heap.size, 1, none⟩ = some (.int .i64 n) ∧ u.cell? ⟨w.heap.size, 2, none⟩ = some (.string s) ∧ u.cell? ⟨w.heap.size, 3, none⟩ = some (.slice A ks.length cap)) (go_keep)
        (first
          | (go_at_call 70; (with_reducible refine Calls.mono (KO _ (TK.out.2 _ hb.drew)).out ?_); rintro ee w1 ⟨rfl, hb1⟩; have l1 : w.heap.size < w1.heap.size := Nat.lt_of_lt_of_le hlt hb1.size; have tb := Lib.hid (TB.out _ ((Below.refl _ wa).drew.trans hb1)); have g0 := (hb1.cell (p := ⟨w.heap.size, 0, none⟩) hlt).trans c0; have g1 := (hb1.cell (p := ⟨w.heap.size, 1, none⟩) hlt).trans c1; have g2 := (hb1.cell (p := ⟨w.heap.size, 2, none⟩) hlt).trans c2; have g3 := (hb1.cell (p := ⟨w.heap.size, 3, none⟩) hlt).trans c3)
          | (go_at_call 165; (with_reducible refine Calls.mono (fits_between op _ _ n s op A ks.length cap _ (by omega) HO.out) ?_); rintro ee w2 ⟨rfl, hb2⟩; have k0 := (hb2.cell (p := ⟨w.heap.size, 0, none⟩) l1).trans g0; have k1 := (hb2.cell (p := ⟨w.heap.size, 1, none⟩) l1).trans g1; have k2 := (hb2.cell (p := ⟨w.heap.size, 2, none⟩) l1).trans g2; have k3 := (hb2.cell (p := ⟨w.heap.size, 3, none⟩) l1).trans g3))
      all_goals
        have hb3 := (hb.drew.trans (hb1.mono (Nat.le_of_lt hlt))).trans (hb2.mono (Nat.le_trans (Nat.le_of_lt hlt) hb1.size))
        have hlt3 := Nat.lt_of_lt_of_le l1 hb2.size
        go_wp2
        go_meet
        exact ⟨rfl, hb3, hlt3, k0, k1, k2, k3⟩
    · have HO := Lib.hid ho; clear ho
      have e1 : kindV op = .iface 142 (.agg #[]) := kindV_no HO.out
      rw [e1] at KO0
      have KO := fun W h => Lib.hid (KO0 W h)
      clear e1 KO0
      go_region_held3 (fun u => u.cell? ⟨w.heap.size, 0, none⟩ = some (.int .i64 op) ∧ u.cell? ⟨w.heap.size, 1, none⟩ = some (.int .i64 n) ∧ u.cell? ⟨w.heap.size, 2, none⟩ = some (.string s) ∧ u.cell? ⟨w.heap.size, 3, none⟩ = some (.slice A ks.length cap)) (go_keep)
        (first
          | (go_at_call 70; (with_reducible refine Calls.mono (KO _ (TK.out.2 _ hb.drew)).out ?_); rintro ee w1 ⟨rfl, hb1⟩; have l1 : w.heap.size < w1.heap.size := Nat.lt_of_lt_of_le hlt hb1.size; have tb := Lib.hid (TB.out _ ((Below.refl _ wa).drew.trans hb1)); have g0 := (hb1.cell (p := ⟨w.heap.size, 0, none⟩) hlt).trans c0; have g1 := (hb1.cell (p := ⟨w.heap.size, 1, none⟩) hlt).trans c1; have g2 := (hb1.cell (p := ⟨w.heap.size, 2, none⟩) hlt).trans c2; have g3 := (hb1.cell (p := ⟨w.heap.size, 3, none⟩) hlt).trans c3)
          | (go_at_call 171; (with_reducible refine Calls.mono (fits_strange n s op A ks.length cap _ HO.out) ?_); rintro ee w2 ⟨rfl, hb2⟩; have k0 := (hb2.cell (p := ⟨w.heap.size, 0, none⟩) l1).trans g0; have k1 := (hb2.cell (p := ⟨w.heap.size, 1, none⟩) l1).trans g1; have k2 := (hb2.cell (p := ⟨w.heap.size, 2, none⟩) l1).trans g2; have k3 := (hb2.cell (p := ⟨w.heap.size, 3, none⟩) l1).trans g3))
      all_goals
        have hb3 := (hb.drew.trans (hb1.mono (Nat.le_of_lt hlt))).trans (hb2.mono (Nat.le_trans (Nat.le_of_lt hlt) hb1.size))
        have hlt3 := Nat.lt_of_lt_of_le l1 hb2.size
        go_wp2
        go_meet
        exact ⟨rfl, hb3, hlt3, k0, k1, k2, k3⟩
  case rest =>
    obtain ⟨rfl, hbc, hltc, d0, d1, d2, d3⟩ := hcut
    clear c0 c1 c2 c3 hb hlt C0 C1 C2 C3 HB HLT KO0 q1
    cases hf : fitB op n s ks.length
    · have HF := Lib.hid (formE_unfit (d := d + 1) (e := E.mk op n s ks) hf)
      clear hf
      rw [Bool.not_false]
      go_wp2
      go_ret
      exact ⟨by rw [HF.out]; rfl, hbc⟩
    · have HF := Lib.hid hf
      clear hf
      rw [Bool.not_true]
      go_wp2
      have hR := HR.out.below hbc
      have HR2 := Lib.hid hR
      clear hR d0 d1 d2 d3
      obtain ⟨wx, rfl⟩ : ∃ wx : World, wx = wc := ⟨_, rfl⟩
      go_loopw [20] (fun i wr => ∃ k : Nat, k ≤ ks.length ∧ i = .int .i64 k ∧ kidsTo d ks k ∧ Below w.heap.size w wr) (fun i _ => ks.length - (intOf i).toNat)
      case atStart => exact ⟨0, Nat.zero_le _, rfl, kidsTo_zero d ks, hbc⟩
      case round =>
        obtain ⟨k, hk, rfl, hall, hb⟩ := hrel
        have HA := Lib.hid hall
        have hbs := hb.size
        clear hall
        by_cases hlt : k < ks.length
        · obtain ⟨b, o, rfl, hB, ⟨c0, c1, c2⟩, A', cap', c3, hr'⟩ := (HR.out.below hb).at_ hlt
          have hsz : sizeE ks[k] ≤ 2000000 := by have := sizeL_get hlt; omega
          have hkid : ks[k] = ks[k] := rfl
          generalize hkd : ks[k] = kid at *
          have HK := Lib.hid hkd
          clear hkd hkid
          obtain ⟨op', n', s', ks'⟩ := kid
          dsimp only [E.op, E.n, E.name, E.kids] at c0 c1 c2 c3 hr'
          have hb1 := hb.alloc hbs (.cells #[.int .i64 op', .int .i64 n', .string s', .slice A' ks'.length cap'] 24)
          have hr2 := (hr'.below ((Below.refl _ _).alloc (Nat.le_trans (Nat.le_refl _) hbs) (.cells #[.int .i64 op', .int .i64 n', .string s', .slice A' ks'.length cap'] 24))).more hb1.size
          have IHK := Lib.hid (IH.out (E.mk op' n' s' ks') A' cap' _ hr2 (TK.out.1 _ hb1) (TK.out.2 _ hb1) hsz)
          clear hr' hr2 hsz
          dsimp only [E.op, E.n, E.name, E.kids] at IHK
          cases hf : formE d (E.mk op' n' s' ks')
          · have HBAD := Lib.hid (formE_bad (d := d) (e := E.mk op n s ks) (i := k) hlt (by show formE d ks[k] = false; rw [HK.out]; exact hf))
            rw [hf] at IHK
            clear hf
            go_wp2_with ((go_at_call 44; (with_reducible refine Calls.mono IHK.out ?_); rintro ee w2 ⟨rfl, hb2⟩; have hb3 := hb1.trans (hb2.mono hb1.size)))
            go_ret
            exact ⟨by rw [HBAD.out]; rfl, hb3⟩
          · have HN := Lib.hid (kidsTo_succ HA.out hlt (by rw [HK.out]; exact hf))
            rw [hf] at IHK
            clear hf
            go_wp2_with ((go_at_call 44; (with_reducible refine Calls.mono IHK.out ?_); rintro ee w2 ⟨rfl, hb2⟩; have hb3 := hb1.trans (hb2.mono hb1.size)))
            go_roundw
            case rel => exact ⟨k + 1, by omega, by go_num, HN.out, hb3⟩
            case measure => simp only [intOf]; omega
        · obtain rfl : k = ks.length := by omega
          have HY := Lib.hid (formE_yes (d := d) (e := E.mk op n s ks) HF.out HA.out)
          go_wp2
          go_ret
          exact ⟨by rw [HY.out]; rfl, hb⟩
/-- The program's test of form and depth. -/
theorem fitsWithin_any : ∀ (d : Nat) (_ : d ≤ 100) (e : E) (A : Option Addr) (cap : Nat) (w : World), RdS w w.heap.size e.kids A → Tabs w → Sgn w → sizeE e ≤ 2000000 →
    Calls Tryz.prog 44 #[exV e A cap, .int .i64 d] w (BoolB (formE d e) w)
  | 0, _, e, A, cap, w, _, _, _, _ => fitsWithin_zero e A cap w
  | d + 1, hd, e, A, cap, w, hR, T, G, hl => by
    rw [show ((d + 1 : Nat) : Int) = (d : Int) + 1 by omega]
    exact fitsWithin_succ d (by omega) e A cap w hR T G hl (fun e A cap w h1 h2 h3 h4 => fitsWithin_any d (by omega) e A cap w h1 h2 h3 h4)
end Go.Proofs.YtkhcfhhejmkikaaGreatDoor
