/-
  The drawing kit: a reader of bytes in memory of the call's own; what pick, of and num return.
-/
import Derived.Test.YtoepehlndljkoaaDoorKW
import Derived.Laws.BytesArg
import Derived.Laws.BitsAllLaws
import Derived.Laws.BitsLemmas
namespace Go.Proofs.YtoepehlndljkoaaDoor
open Go.RowKit
set_option maxRecDepth 100000

/-- Bytes that can be read, below block B. -/
def Bytes (w : World) (B : Nat) (A : Option Addr) (l : List UInt8) : Prop :=
  l ≠ [] → ∃ b o, A = some ⟨b, o, none⟩ ∧ b < B ∧ ∀ k, (h : k < l.length) → w.cell? ⟨b, o + k, none⟩ = some (.int .u8 l[k].toNat)
theorem Bytes.at_ {w : World} {B : Nat} {A : Option Addr} {l : List UInt8} (h : Bytes w B A l) {k : Nat} (hk : k < l.length) :
    ∃ b o, A = some ⟨b, o, none⟩ ∧ b < B ∧ ∀ j, (h : j < l.length) → w.cell? ⟨b, o + j, none⟩ = some (.int .u8 l[j].toNat) := h (by intro e; subst e; simp at hk)
theorem Bytes.below {w w' : World} {B : Nat} {A : Option Addr} {l : List UInt8} (h : Bytes w B A l) (hb : Below B w w') : Bytes w' B A l := by
  intro hne
  obtain ⟨b, o, e, hB, hc⟩ := h hne
  exact ⟨b, o, e, hB, fun k hk => (hb.cell (p := ⟨b, _, none⟩) hB).trans (hc k hk)⟩
/-- A reader at block R behind p picks. -/
structure Rd (w : World) (R : Nat) (p : Nat) : Prop where
  ex : ∃ A l cap, l.length ≤ 2000 ∧ w.heap[R]? = some (.cells #[.slice A l.length cap, .int .i64 (p : Int)] 78 (0, 0)) ∧ Bytes w R A l
theorem Rd.lt {w : World} {R p : Nat} (h : Rd w R p) : R < w.heap.size := by
  obtain ⟨A, l, cap, _, h1, _⟩ := h.ex
  exact (Array.getElem?_eq_some_iff.1 h1).1
theorem Rd.keep {w w' : World} {R p : Nat} (h : Rd w R p) (hb : Below w.heap.size w w') : Rd w' R p := by
  have hlt := h.lt
  obtain ⟨A, l, cap, h0, h1, h2⟩ := h.ex
  exact ⟨A, l, cap, h0, by rw [hb.block R hlt]; exact h1, h2.below (hb.mono (by omega))⟩
/-- The world behind a pick: the reader has gone on, and nothing else has turned. -/
def pickW (w : World) (R p q : Nat) : World := (w.setCell ⟨R, 1, none⟩ (.int .i64 ((p + 1 : Nat) : Int))).drewN q
theorem Rd.pick {w : World} {R p : Nat} (h : Rd w R p) (q : Nat) : Rd (pickW w R p q) R (p + 1) := by
  obtain ⟨A, l, cap, h0, h1, h2⟩ := h.ex
  refine ⟨A, l, cap, h0, ?_, ?_⟩
  · show (w.setCell ⟨R, 1, none⟩ _).heap[R]? = _
    rw [heap_setCell_same w R 1 _ _ _ h1]
    rfl
  · have hb : Below R w (pickW w R p q) := below_drewN ((Below.refl R w).setCell (Nat.le_refl _) _) q
    exact h2.below hb
def PickRet (R p n : Nat) (w : World) (e : Ending) (w' : World) : Prop := ∃ r : Nat, r < n ∧ e = .returned (.int .i64 (r : Int)) ∧ ∃ q, w' = pickW w R p q

theorem i64_xor_nat (a b : Nat) (ha : a < 4611686018427387904) (hb : b < 4611686018427387904) : bits .xor .i64 (a : Int) (b : Int) = ((a ^^^ b : Nat) : Int) := by
  have hx : a ^^^ b < 2 ^ 62 := Nat.xor_lt_two_pow (by omega) (by omega)
  show IntKind.i64.wrap ((BitVec.ofInt 64 (a : Int) ^^^ BitVec.ofInt 64 (b : Int)).toNat : Int) = _
  rw [BitVec.toNat_xor, ofInt_u64 a (by omega), ofInt_u64 b (by omega), IntKind.wrap_i64]
  omega

set_option maxHeartbeats 2000000 in
theorem pick_any (R p n : Nat) (w : World) (h : Rd w R p) (hp : p ≤ 1000000) (hn1 : 1 ≤ n) (hn2 : n ≤ 1000) :
    Calls Tryd.prog 39 #[.pointer (some ⟨R, 0, none⟩), .int .i64 (n : Int)] w (PickRet R p n w) := by
  obtain ⟨A, l, cap, hl, hR, hB⟩ := h.ex
  have c0 : w.cell? ⟨R, 0, none⟩ = some (.slice A l.length cap) := by unfold World.cell?; rw [hR]; rfl
  have c1 : w.cell? ⟨R, 1, none⟩ = some (.int .i64 (p : Int)) := by unfold World.cell?; rw [hR]; rfl
  have f1 : w.frozen? ⟨R, 1, none⟩ = false := frozen_of_row w R 1 _ _ hR
  have HR := Lib.hid hR
  clear hR h
  have hq0 : (w.setCell ⟨R, 1, none⟩ (.int .i64 ((p : Int) + 1))) = pickW w R p 0 := rfl
  by_cases hz : l.length = 0
  · have e1 : ((l.length : Int) == 0) = true := by rw [beq_iff_eq]; omega
    have HQ := Lib.hid hq0
    clear hz hq0 hB
    go_enter Tryd.func39, Tryd.ntmps39
    go_wp2
    go_ret
    exact ⟨0, by omega, rfl, 0, HQ.out⟩
  have e1 : ((l.length : Int) == 0) = false := by rw [beq_eq_false_iff_ne]; omega
  have hlpos : 0 < l.length := by omega
  clear hz
  by_cases hpl : p < l.length
  · obtain ⟨b, o, rfl, hbR, hc⟩ := hB.at_ hpl
    have hcp := hc p hpl
    have hv := (l[p]).toNat_lt
    generalize (l[p]).toNat = z at *
    have HQ := Lib.hid hq0
    clear hq0 hB hc
    go_enter Tryd.func39, Tryd.ntmps39
    go_wp2
    go_ways
    go_ret
    refine ⟨z % n, Nat.mod_lt _ (by omega), rfl, 0, HQ.out⟩
  · obtain ⟨b, o, rfl, hbR, hc⟩ := hB.at_ hlpos
    have hq1 : p % l.length < l.length := Nat.mod_lt _ hlpos
    have hq2 : (p * 7 + 3) % l.length < l.length := Nat.mod_lt _ hlpos
    have hc1 := hc _ hq1
    have hc2 := hc _ hq2
    have hv1 := (l[p % l.length]).toNat_lt
    have hv2 := (l[(p * 7 + 3) % l.length]).toNat_lt
    generalize (l[p % l.length]).toNat = z1 at *
    generalize (l[(p * 7 + 3) % l.length]).toNat = z2 at *
    have t1 : (p : Int).tmod (l.length : Int) = ((p % l.length : Nat) : Int) := by rw [Int.tmod_eq_emod_of_nonneg (by omega)]; rfl
    have t2 : ((p : Int) * 7 + 3).tmod (l.length : Int) = (((p * 7 + 3) % l.length : Nat) : Int) := by rw [Int.tmod_eq_emod_of_nonneg (by omega)]; rfl
    have t3 : (p : Int).tdiv (l.length : Int) = ((p / l.length : Nat) : Int) := by rw [Int.tdiv_eq_ediv_of_nonneg (by omega)]; rfl
    have hq3 : p / l.length ≤ p := Nat.div_le_self _ _
    generalize p % l.length = q1 at *
    generalize (p * 7 + 3) % l.length = q2 at *
    generalize p / l.length = q3 at *
    have hne : ¬ ((l.length : Int) = 0) := by omega
    have HQ := Lib.hid hq0
    have hpl' : l.length ≤ p := by omega
    clear hq0 hB hc hpl
    go_enter Tryd.func39, Tryd.ntmps39
    go_wp2
    go_quiet (fail)
    go_wp2
    have hx : ∃ X : Nat, bits BinOp.xor IntKind.i64 ((z1 : Int) * 131 + z2 * 1117 + p * 29 + q3 * 53) (((z1 : Int) * 131 + z2 * 1117 + p * 29 + q3 * 53) / 64) = (X : Int) :=
      ⟨_, i64_xor_nat (z1 * 131 + z2 * 1117 + p * 29 + q3 * 53) ((z1 * 131 + z2 * 1117 + p * 29 + q3 * 53) / 64) (by omega) (by omega)⟩
    obtain ⟨X, hX⟩ := hx
    have hX' : ((X : Int)).tmod (n : Int) = ((X % n : Nat) : Int) := by rw [Int.tmod_eq_emod_of_nonneg (by omega)]; rfl
    rw [hX, hX']
    go_ret
    exact ⟨X % n, Nat.mod_lt _ (by omega), rfl, nq, rfl⟩
end Go.Proofs.YtoepehlndljkoaaDoor
