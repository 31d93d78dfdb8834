/-
  The model's text of a jump, and of a unit.
-/
import Derived.Test.YtomhomnibikceaaDoorYF
import Derived.Test.YtomhomnibikceaaDoorNU
import Derived.Deep.RegionHeld3
namespace Go.Proofs.YtomhomnibikceaaDoor
open Go.RowKit
set_option maxRecDepth 100000

theorem two_items {l : List Int} (h : l.length = 2) : ∃ a b, l = [a, b] := by
  match l, h with
  | [a, b], _ => exact ⟨a, b, rfl⟩
set_option maxHeartbeats 4000000 in
theorem l7Jump_any (x : Bk) (hp : OkBk x) (v : Value) (w : World) (hV : BkV w (Lt w.heap.size) x v) :
    Calls Tryd.prog 34 #[v] w (TxRet (jumpT x) w) := by
  obtain ⟨A0, c0, A1, c1, A4, c4, rfl, _, _, hR⟩ := hV
  have K0 := Lib.hid (Bw.new w 56 #[.slice A0 x.phis.length c0, .slice A1 x.ins.length c1, .int .i64 x.jump, .int .i64 x.on, .slice A4 x.next.length c4])
  have hb0 := (Below.refl w.heap.size w).alloc (Nat.le_refl _) (.cells #[.slice A0 x.phis.length c0, .slice A1 x.ins.length c1, .int .i64 x.jump, .int .i64 x.on, .slice A4 x.next.length c4] 56)
  have hl0 : w.heap.size < (w.alloc (.cells #[.slice A0 x.phis.length c0, .slice A1 x.ins.length c1, .int .i64 x.jump, .int .i64 x.on, .slice A4 x.next.length c4] 56)).heap.size := by rw [World.size_alloc]; omega
  have LO := fun W => Lib.hid (dec_sm x.on hp.on W)
  have HR := Lib.hid (fun W (h : Below w.heap.size w W) => hR.on h h.size)
  have HLAST := Lib.hid (show jumpT x = jNm x.jump ++ ((if jUses x.jump then 32 :: 114 :: Lib.itoa x.on else []) ++ (catT numT x.next ++ [10])) from rfl)
  have hlen := hp.len
  have hjj := hp.jump
  have HNX := Lib.hid hp.next
  have z1 := tx_size (Lib.itoa x.on)
  have y1 := itoaS hp.on
  unfold TxRet at LO
  obtain ⟨to, eto⟩ : ∃ t, t = tx (Lib.itoa x.on) := ⟨_, rfl⟩
  rw [← eto] at z1
  replace LO := fun W => Lib.hid (by have h := (LO W).out; rw [← eto] at h; exact h)
  have EO := Lib.hid eto
  have s1 : to.size ≤ 20 := by omega
  clear eto z1 y1 hR
  have k0 := show (w.alloc (.cells #[.slice A0 x.phis.length c0, .slice A1 x.ins.length c1, .int .i64 x.jump, .int .i64 x.on, .slice A4 x.next.length c4] 56)).cell? ⟨w.heap.size, 2, none⟩ = some (.int .i64 x.jump) from (K0.out.cell 2).trans rfl
  have k3 := show (w.alloc (.cells #[.slice A0 x.phis.length c0, .slice A1 x.ins.length c1, .int .i64 x.jump, .int .i64 x.on, .slice A4 x.next.length c4] 56)).cell? ⟨w.heap.size, 3, none⟩ = some (.int .i64 x.on) from (K0.out.cell 3).trans rfl
  have k4 := show (w.alloc (.cells #[.slice A0 x.phis.length c0, .slice A1 x.ins.length c1, .int .i64 x.jump, .int .i64 x.on, .slice A4 x.next.length c4] 56)).cell? ⟨w.heap.size, 4, none⟩ = some (.slice A4 x.next.length c4) from (K0.out.cell 4).trans rfl
  have hR0 := HR.out _ hb0
  have h123 : x.jump = 1 ∨ x.jump = 2 ∨ x.jump = 3 := by omega
  clear hjj
  rcases h123 with hj | hj | hj
  · have e1 : (x.jump == 1) = true := beq_yes hj
    have hl1 : x.next.length = 1 := by rw [hj] at hlen; have : jNext 1 = 1 := rfl; omega
    obtain ⟨n0, hn0⟩ : ∃ n0, x.next = [n0] := List.length_eq_one_iff.1 hl1
    have hs0 : SmN n0 := HNX.out n0 (by rw [hn0]; simp)
    obtain ⟨bb, oo, hA, hB, d0⟩ := hR0.at_ (i := 0) (by omega)
    have e0 : x.next[0]'(by omega) = n0 := by simp [hn0]
    rw [e0, Nat.add_zero] at d0
    subst hA
    have L0 := fun W => dec_sm n0 hs0 W
    have HT := Lib.hid (show (⟨#[103, 111, 32]⟩ : ByteArray) ++ tx (Lib.itoa n0) ++ ⟨#[10]⟩ = tx (jumpT x) from by
      rw [HLAST.out, hn0, hj, show (⟨#[103, 111, 32]⟩ : ByteArray) = tx [103, 111, 32] from rfl, show (⟨#[10]⟩ : ByteArray) = tx [10] from rfl, tx_app, tx_app]
      congr 1
      have e2 : jUses 1 = false := by decide
      have e3 : jNm 1 = [103, 111] := rfl
      rw [e2, e3]
      simp [catT, numT])
    have z1 := tx_size (Lib.itoa n0)
    have y1 := itoaS hs0
    unfold TxRet at L0
    generalize tx (Lib.itoa n0) = t0 at *
    replace L0 := fun W => Lib.hid (L0 W)
    have s2 : t0.size ≤ 20 := by omega
    have hl1' : (0 : Int) < x.next.length := by omega
    rw [hl1] at *
    clear hj hlen hn0 z1 y1 hl1 e0 hR0
    go_enter Tryd.func34, Tryd.ntmps34
    go_wp2_with fail
    (with_reducible refine Calls.mono (L0 _).out ?_)
    rintro ee w1 ⟨rfl, hb1⟩
    have hb2 := hb0.trans (hb1.mono hb0.size)
    go_wp2_with fail
    go_ret
    exact ⟨by rw [← HT.out]; rfl, hb2⟩
  · have e1 : (x.jump == 1) = false := beq_no (by omega)
    have e2 : (x.jump == 2) = true := beq_yes hj
    have hl1 : x.next.length = 2 := by rw [hj] at hlen; have : jNext 2 = 2 := rfl; omega
    obtain ⟨n0, n1, hn0⟩ : ∃ n0 n1, x.next = [n0, n1] := two_items hl1
    have hs0 : SmN n0 := HNX.out n0 (by rw [hn0]; simp)
    have hs1 : SmN n1 := HNX.out n1 (by rw [hn0]; simp)
    obtain ⟨bb, oo, hA, hB, d0⟩ := hR0.at_ (i := 0) (by omega)
    obtain ⟨bb', oo', hA', _, d1⟩ := hR0.at_ (i := 1) (by omega)
    have e0 : x.next[0]'(by omega) = n0 := by simp [hn0]
    have e0' : x.next[1]'(by omega) = n1 := by simp [hn0]
    rw [e0, Nat.add_zero] at d0
    rw [e0'] at d1
    rw [hA] at hA'
    obtain ⟨rfl, rfl⟩ : bb = bb' ∧ oo = oo' := by
      injection hA' with h; injection h with h1 h2; exact ⟨h1, h2⟩
    clear hA'
    subst hA
    have L0 := fun W => dec_sm n0 hs0 W
    have L1 := fun W => dec_sm n1 hs1 W
    have HT := Lib.hid (show (((((⟨#[105, 102, 32, 114]⟩ : ByteArray) ++ to) ++ ⟨#[32]⟩) ++ tx (Lib.itoa n0)) ++ ⟨#[32]⟩) ++ tx (Lib.itoa n1) ++ ⟨#[10]⟩ = tx (jumpT x) from by
      rw [HLAST.out, hn0, hj, EO.out, show (⟨#[105, 102, 32, 114]⟩ : ByteArray) = tx [105, 102, 32, 114] from rfl, show (⟨#[32]⟩ : ByteArray) = tx [32] from rfl, show (⟨#[10]⟩ : ByteArray) = tx [10] from rfl, tx_app, tx_app, tx_app, tx_app, tx_app, tx_app]
      congr 1
      have e2 : jUses 2 = true := by decide
      have e3 : jNm 2 = [105, 102] := rfl
      rw [e2, e3]
      simp [catT, numT])
    have z1 := tx_size (Lib.itoa n0)
    have y1 := itoaS hs0
    have z2 := tx_size (Lib.itoa n1)
    have y2 := itoaS hs1
    unfold TxRet at L0 L1
    generalize tx (Lib.itoa n0) = t0 at *
    generalize tx (Lib.itoa n1) = t1 at *
    replace L0 := fun W => Lib.hid (L0 W)
    replace L1 := fun W => Lib.hid (L1 W)
    have s2 : t0.size ≤ 20 := by omega
    have s3 : t1.size ≤ 20 := by omega
    rw [hl1] at *
    have q1 : ¬ (9223372036854775807 < 4 + to.size) := by omega
    have q2 : ¬ (9223372036854775807 < 4 + to.size + 1) := by omega
    have q3 : ¬ (9223372036854775807 < 4 + to.size + 1 + t0.size) := by omega
    have q4 : ¬ (9223372036854775807 < 4 + to.size + 1 + t0.size + 1) := by omega
    have q5 : ¬ (9223372036854775807 < 4 + to.size + 1 + t0.size + 1 + t1.size) := by omega
    have q6 : ¬ (9223372036854775807 < 4 + to.size + 1 + t0.size + 1 + t1.size + 1) := by omega
    clear hj hlen hn0 z1 y1 z2 y2 e0 e0' hR0 s1 s2 s3 hl1
    go_enter Tryd.func34, Tryd.ntmps34
    go_wp2_with fail
    generalize w.alloc (.cells #[.slice A0 x.phis.length c0, .slice A1 x.ins.length c1, .int .i64 x.jump, .int .i64 x.on, .slice (some ⟨bb, oo, none⟩) 2 c4] 56) = w0 at *
    have K0d := Lib.hid (show Bw w0.drew w.heap.size _ _ from K0.out)
    have dd0 := show w0.drew.cell? ⟨bb, oo, none⟩ = some (.int .i64 n0) from d0
    have dd1 := show w0.drew.cell? ⟨bb, oo + 1, none⟩ = some (.int .i64 n1) from d1
    have hB0 : bb < w0.drew.heap.size := hB
    go_region_held3 (fun u => u.cell? ⟨w.heap.size, 3, none⟩ = some (.int .i64 x.on) ∧ u.cell? ⟨w.heap.size, 4, none⟩ = some (.slice (some ⟨bb, oo, none⟩) 2 c4) ∧ u.cell? ⟨bb, oo, none⟩ = some (.int .i64 n0) ∧ u.cell? ⟨bb, oo + 1, none⟩ = some (.int .i64 n1)) (go_keep)
      (first
        | (go_at_call 31; (with_reducible refine Calls.mono (LO _).out ?_); rintro ee w1 ⟨rfl, hb1⟩; have K1 := Lib.hid (K0d.out.below hb1); have f3 := show w1.cell? ⟨w.heap.size, 3, none⟩ = some (.int .i64 x.on) from (K1.out.cell 3).trans rfl; have f4 := show w1.cell? ⟨w.heap.size, 4, none⟩ = some (.slice (some ⟨bb, oo, none⟩) 2 c4) from (K1.out.cell 4).trans rfl; have g0 := (hb1.cell (p := ⟨bb, oo, none⟩) hB0).trans dd0; have g1 := (hb1.cell (p := ⟨bb, oo + 1, none⟩) hB0).trans dd1; have hB1 := Nat.lt_of_lt_of_le hB0 hb1.size)
        | (go_at_call 31; (with_reducible refine Calls.mono (L0 _).out ?_); rintro ee w2 ⟨rfl, hb2⟩; have K2 := Lib.hid (K1.out.below hb2); have m3 := show w2.cell? ⟨w.heap.size, 3, none⟩ = some (.int .i64 x.on) from (K2.out.cell 3).trans rfl; have m4 := show w2.cell? ⟨w.heap.size, 4, none⟩ = some (.slice (some ⟨bb, oo, none⟩) 2 c4) from (K2.out.cell 4).trans rfl; have h0 := (hb2.cell (p := ⟨bb, oo, none⟩) hB1).trans g0; have h1 := (hb2.cell (p := ⟨bb, oo + 1, none⟩) hB1).trans g1; have hB2 := Nat.lt_of_lt_of_le hB1 hb2.size; have hb12 := hb1.trans (hb2.mono hb1.size))
        | (go_at_call 31; (with_reducible refine Calls.mono (L1 _).out ?_); rintro ee w3 ⟨rfl, hb3⟩; have K3 := Lib.hid (K2.out.below hb3); have r3 := show w3.cell? ⟨w.heap.size, 3, none⟩ = some (.int .i64 x.on) from (K3.out.cell 3).trans rfl; have r4 := show w3.cell? ⟨w.heap.size, 4, none⟩ = some (.slice (some ⟨bb, oo, none⟩) 2 c4) from (K3.out.cell 4).trans rfl; have t0' := (hb3.cell (p := ⟨bb, oo, none⟩) hB2).trans h0; have t1' := (hb3.cell (p := ⟨bb, oo + 1, none⟩) hB2).trans h1; have hb13 := hb12.trans (hb3.mono hb12.size)))
    all_goals
      have hbf := hb0.drew.trans (hb13.mono hb0.size)
      go_wp2_with fail
      go_ret
      exact ⟨by rw [← HT.out]; rfl, hbf⟩
  · have e1 : (x.jump == 1) = false := beq_no (by omega)
    have e2 : (x.jump == 2) = false := beq_no (by omega)
    have hl1 : x.next.length = 0 := by rw [hj] at hlen; have : jNext 3 = 0 := rfl; omega
    have hn0 : x.next = [] := List.length_eq_zero_iff.1 hl1
    have HT := Lib.hid (show (⟨#[98, 97, 99, 107, 32, 114]⟩ : ByteArray) ++ to ++ ⟨#[10]⟩ = tx (jumpT x) from by
      rw [HLAST.out, hn0, hj, EO.out, show (⟨#[98, 97, 99, 107, 32, 114]⟩ : ByteArray) = tx [98, 97, 99, 107, 32, 114] from rfl, show (⟨#[10]⟩ : ByteArray) = tx [10] from rfl, tx_app, tx_app]
      congr 1)
    clear hj hlen hn0 hl1 hR0
    go_enter Tryd.func34, Tryd.ntmps34
    go_wp2_with fail
    (with_reducible refine Calls.mono (LO _).out ?_)
    rintro ee w1 ⟨rfl, hb1⟩
    have hb2 := hb0.trans (hb1.mono hb0.size)
    go_wp2_with fail
    go_ret
    exact ⟨by rw [← HT.out]; rfl, hb2⟩
end Go.Proofs.YtomhomnibikceaaDoor
