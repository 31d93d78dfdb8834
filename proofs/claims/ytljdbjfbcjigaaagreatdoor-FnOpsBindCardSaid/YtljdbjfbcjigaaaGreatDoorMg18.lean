/-
  The texts of statements, as the model writes them.
-/
import Derived.Test.YtljdbjfbcjigaaaGreatDoorMg12
import Derived.Test.YtljdbjfbcjigaaaGreatDoorMg16
import Derived.Test.YtljdbjfbcjigaaaGreatDoorMg17
namespace Go.Proofs.YtljdbjfbcjigaaaGreatDoor
open Go.RowKit
set_option maxRecDepth 100000

theorem textW_size {e : E} (h : validE e = true) : (tx (wE e 1)).size ≤ 900 := textE_size h
theorem blk_size {d : Nat} {l : List St} (h : ∀ t ∈ l, formT d t = true) (hs : sizeTL l ≤ 1000000) : (tx (blkW l)).size ≤ 2000000010 := by
  have h1 := tx_size (blkW_valid (wTL_valid h))
  have h2 := wTL_len h
  rw [blkW_len] at h1
  omega

set_option maxHeartbeats 2000000 in
theorem l3Line_op1 (s : ByteArray) (_hs : s.size ≤ 1048576) (e : E) (he : validE e = true) (A1 A2 A3 : Option Addr) (p1 n2 p2 n3 p3 : Nat) (w : World) (hR : RdS w w.heap.size [e] A1) :
    Calls Tryz.prog 171 #[.agg #[.int .i64 1, .string s, .slice A1 1 p1, .slice A2 n2 p2, .slice A3 n3 p3]] w (StrB (tx (headW 1 s ++ (argsW [e] ++ [(3, scS)]))) w) := by
  have HT := Lib.hid (show tx (headW 1 s ++ (argsW [e] ++ [(3, scS)])) = (((⟨#[108, 101, 116, 32]⟩ ++ s) ++ ⟨#[32, 61, 32]⟩) ++ tx (wE e 1)) ++ ⟨#[32, 59]⟩ from by rw [argsW_one]; exact tx_let s (wE_ne1 he))
  generalize tx (headW 1 s ++ (argsW [e] ++ [(3, scS)])) = t at *
  obtain ⟨b, o, rfl, hB, ⟨d0, d1, d2⟩, A', cap', d3, hr'⟩ := hR.at_ (i := 0) (by simp)
  rw [Nat.zero_mul, Nat.add_zero] at d0 d1 d2 d3
  have e0 : [e][0] = e := rfl
  rw [e0] at d0 d1 d2 d3 hr'
  obtain ⟨c0, c1, c2, c3, c4, hlt, hb⟩ := box5 w (.int .i64 1) (.string s) (.slice (some ⟨b, o, none⟩) 1 p1) (.slice A2 n2 p2) (.slice A3 n3 p3) 209
  have TX := fun W (h : Below w.heap.size w W) => l2Text_any 6 e (validE_form he) 1 (by omega) A' cap' W ((hr'.below h).more h.size) (by have := validE_size he; omega)
  have hse := textW_size he
  have h1 : ((1 : Nat) : Int) = 1 := rfl
  rw [h1] at TX
  have KD := Lib.hid (show ∀ W, Below w.heap.size w W → W.cell? ⟨b, o, none⟩ = some (.int .i64 e.op) ∧ W.cell? ⟨b, o + 1, none⟩ = some (.int .i64 e.n) ∧ W.cell? ⟨b, o + 2, none⟩ = some (.string e.name) ∧ W.cell? ⟨b, o + 3, none⟩ = some (.slice A' e.kids.length cap') from fun W h => ⟨(h.cell (p := ⟨b, _, none⟩) hB).trans d0, (h.cell (p := ⟨b, _, none⟩) hB).trans d1, (h.cell (p := ⟨b, _, none⟩) hB).trans d2, (h.cell (p := ⟨b, _, none⟩) hB).trans d3⟩)
  clear d0 d1 d2 d3 hr' hR e0 h1 he
  unfold exV at TX
  generalize tx (wE e 1) = te at *
  have TX1 := Lib.hid (TX _ hb)
  clear TX
  obtain ⟨k0, k1, k2, k3⟩ := KD.out _ hb
  go_enter Tryz.func171, Tryz.ntmps171
  go_wp2_with fail
  (with_reducible refine Calls.mono TX1.out ?_)
  rintro ee w1 ⟨rfl, hb1⟩
  have hb2 := hb.trans (hb1.mono (Nat.le_of_lt hlt))
  have hl2 := Nat.lt_of_lt_of_le hlt hb1.size
  have m0 := (hb1.cell (p := ⟨w.heap.size, 0, none⟩) hlt).trans c0
  have m1 := (hb1.cell (p := ⟨w.heap.size, 1, none⟩) hlt).trans c1
  have m2 := (hb1.cell (p := ⟨w.heap.size, 2, none⟩) hlt).trans c2
  have m3 := (hb1.cell (p := ⟨w.heap.size, 3, none⟩) hlt).trans c3
  have m4 := (hb1.cell (p := ⟨w.heap.size, 4, none⟩) hlt).trans c4
  clear c0 c1 c2 c3 c4 k0 k1 k2 k3 TX1 hb hb1 hlt
  go_wp2_with fail
  go_ret
  exact ⟨by rw [HT.out]; rfl, hb2⟩
set_option maxHeartbeats 2000000 in
theorem l3Line_op2 (s : ByteArray) (_hs : s.size ≤ 1048576) (e : E) (he : validE e = true) (A1 A2 A3 : Option Addr) (p1 n2 p2 n3 p3 : Nat) (w : World) (hR : RdS w w.heap.size [e] A1) :
    Calls Tryz.prog 171 #[.agg #[.int .i64 2, .string s, .slice A1 1 p1, .slice A2 n2 p2, .slice A3 n3 p3]] w (StrB (tx (headW 2 s ++ (argsW [e] ++ [(3, scS)]))) w) := by
  have HT := Lib.hid (show tx (headW 2 s ++ (argsW [e] ++ [(3, scS)])) = ((s ++ ⟨#[32, 61, 32]⟩) ++ tx (wE e 1)) ++ ⟨#[32, 59]⟩ from by rw [argsW_one]; exact tx_set s (wE_ne1 he))
  generalize tx (headW 2 s ++ (argsW [e] ++ [(3, scS)])) = t at *
  obtain ⟨b, o, rfl, hB, ⟨d0, d1, d2⟩, A', cap', d3, hr'⟩ := hR.at_ (i := 0) (by simp)
  rw [Nat.zero_mul, Nat.add_zero] at d0 d1 d2 d3
  have e0 : [e][0] = e := rfl
  rw [e0] at d0 d1 d2 d3 hr'
  obtain ⟨c0, c1, c2, c3, c4, hlt, hb⟩ := box5 w (.int .i64 2) (.string s) (.slice (some ⟨b, o, none⟩) 1 p1) (.slice A2 n2 p2) (.slice A3 n3 p3) 209
  have TX := fun W (h : Below w.heap.size w W) => l2Text_any 6 e (validE_form he) 1 (by omega) A' cap' W ((hr'.below h).more h.size) (by have := validE_size he; omega)
  have hse := textW_size he
  have h1 : ((1 : Nat) : Int) = 1 := rfl
  rw [h1] at TX
  have KD := Lib.hid (show ∀ W, Below w.heap.size w W → W.cell? ⟨b, o, none⟩ = some (.int .i64 e.op) ∧ W.cell? ⟨b, o + 1, none⟩ = some (.int .i64 e.n) ∧ W.cell? ⟨b, o + 2, none⟩ = some (.string e.name) ∧ W.cell? ⟨b, o + 3, none⟩ = some (.slice A' e.kids.length cap') from fun W h => ⟨(h.cell (p := ⟨b, _, none⟩) hB).trans d0, (h.cell (p := ⟨b, _, none⟩) hB).trans d1, (h.cell (p := ⟨b, _, none⟩) hB).trans d2, (h.cell (p := ⟨b, _, none⟩) hB).trans d3⟩)
  clear d0 d1 d2 d3 hr' hR e0 h1 he
  unfold exV at TX
  generalize tx (wE e 1) = te at *
  have TX1 := Lib.hid (TX _ hb)
  clear TX
  obtain ⟨k0, k1, k2, k3⟩ := KD.out _ hb
  go_enter Tryz.func171, Tryz.ntmps171
  go_wp2_with fail
  (with_reducible refine Calls.mono TX1.out ?_)
  rintro ee w1 ⟨rfl, hb1⟩
  have hb2 := hb.trans (hb1.mono (Nat.le_of_lt hlt))
  have hl2 := Nat.lt_of_lt_of_le hlt hb1.size
  have m0 := (hb1.cell (p := ⟨w.heap.size, 0, none⟩) hlt).trans c0
  have m1 := (hb1.cell (p := ⟨w.heap.size, 1, none⟩) hlt).trans c1
  have m2 := (hb1.cell (p := ⟨w.heap.size, 2, none⟩) hlt).trans c2
  have m3 := (hb1.cell (p := ⟨w.heap.size, 3, none⟩) hlt).trans c3
  have m4 := (hb1.cell (p := ⟨w.heap.size, 4, none⟩) hlt).trans c4
  clear c0 c1 c2 c3 c4 k0 k1 k2 k3 TX1 hb hb1 hlt
  go_wp2_with fail
  go_ret
  exact ⟨by rw [HT.out]; rfl, hb2⟩
set_option maxHeartbeats 2000000 in
theorem l3Line_op3 (s : ByteArray) (_hs : s.size ≤ 1048576) (e : E) (he : validE e = true) (A1 A2 A3 : Option Addr) (p1 n2 p2 n3 p3 : Nat) (w : World) (hR : RdS w w.heap.size [e] A1) :
    Calls Tryz.prog 171 #[.agg #[.int .i64 3, .string s, .slice A1 1 p1, .slice A2 n2 p2, .slice A3 n3 p3]] w (StrB (tx (headW 3 s ++ (argsW [e] ++ [(3, scS)]))) w) := by
  have HT := Lib.hid (show tx (headW 3 s ++ (argsW [e] ++ [(3, scS)])) = (⟨#[115, 97, 121, 32]⟩ ++ tx (wE e 1)) ++ ⟨#[32, 59]⟩ from by rw [argsW_one]; exact tx_plain 3 [115, 97, 121, 32] rfl (wE_ne1 he))
  generalize tx (headW 3 s ++ (argsW [e] ++ [(3, scS)])) = t at *
  obtain ⟨b, o, rfl, hB, ⟨d0, d1, d2⟩, A', cap', d3, hr'⟩ := hR.at_ (i := 0) (by simp)
  rw [Nat.zero_mul, Nat.add_zero] at d0 d1 d2 d3
  have e0 : [e][0] = e := rfl
  rw [e0] at d0 d1 d2 d3 hr'
  obtain ⟨c0, c1, c2, c3, c4, hlt, hb⟩ := box5 w (.int .i64 3) (.string s) (.slice (some ⟨b, o, none⟩) 1 p1) (.slice A2 n2 p2) (.slice A3 n3 p3) 209
  have TX := fun W (h : Below w.heap.size w W) => l2Text_any 6 e (validE_form he) 1 (by omega) A' cap' W ((hr'.below h).more h.size) (by have := validE_size he; omega)
  have hse := textW_size he
  have h1 : ((1 : Nat) : Int) = 1 := rfl
  rw [h1] at TX
  have KD := Lib.hid (show ∀ W, Below w.heap.size w W → W.cell? ⟨b, o, none⟩ = some (.int .i64 e.op) ∧ W.cell? ⟨b, o + 1, none⟩ = some (.int .i64 e.n) ∧ W.cell? ⟨b, o + 2, none⟩ = some (.string e.name) ∧ W.cell? ⟨b, o + 3, none⟩ = some (.slice A' e.kids.length cap') from fun W h => ⟨(h.cell (p := ⟨b, _, none⟩) hB).trans d0, (h.cell (p := ⟨b, _, none⟩) hB).trans d1, (h.cell (p := ⟨b, _, none⟩) hB).trans d2, (h.cell (p := ⟨b, _, none⟩) hB).trans d3⟩)
  clear d0 d1 d2 d3 hr' hR e0 h1 he
  unfold exV at TX
  generalize tx (wE e 1) = te at *
  have TX1 := Lib.hid (TX _ hb)
  clear TX
  obtain ⟨k0, k1, k2, k3⟩ := KD.out _ hb
  go_enter Tryz.func171, Tryz.ntmps171
  go_wp2_with fail
  (with_reducible refine Calls.mono TX1.out ?_)
  rintro ee w1 ⟨rfl, hb1⟩
  have hb2 := hb.trans (hb1.mono (Nat.le_of_lt hlt))
  have hl2 := Nat.lt_of_lt_of_le hlt hb1.size
  have m0 := (hb1.cell (p := ⟨w.heap.size, 0, none⟩) hlt).trans c0
  have m1 := (hb1.cell (p := ⟨w.heap.size, 1, none⟩) hlt).trans c1
  have m2 := (hb1.cell (p := ⟨w.heap.size, 2, none⟩) hlt).trans c2
  have m3 := (hb1.cell (p := ⟨w.heap.size, 3, none⟩) hlt).trans c3
  have m4 := (hb1.cell (p := ⟨w.heap.size, 4, none⟩) hlt).trans c4
  clear c0 c1 c2 c3 c4 k0 k1 k2 k3 TX1 hb hb1 hlt
  go_wp2_with fail
  go_ret
  exact ⟨by rw [HT.out]; rfl, hb2⟩
set_option maxHeartbeats 2000000 in
theorem l3Line_op7 (s : ByteArray) (_hs : s.size ≤ 1048576) (e : E) (he : validE e = true) (A1 A2 A3 : Option Addr) (p1 n2 p2 n3 p3 : Nat) (w : World) (hR : RdS w w.heap.size [e] A1) :
    Calls Tryz.prog 171 #[.agg #[.int .i64 7, .string s, .slice A1 1 p1, .slice A2 n2 p2, .slice A3 n3 p3]] w (StrB (tx (headW 7 s ++ (argsW [e] ++ [(3, scS)]))) w) := by
  have HT := Lib.hid (show tx (headW 7 s ++ (argsW [e] ++ [(3, scS)])) = (⟨#[98, 97, 99, 107, 32]⟩ ++ tx (wE e 1)) ++ ⟨#[32, 59]⟩ from by rw [argsW_one]; exact tx_plain 7 [98, 97, 99, 107, 32] rfl (wE_ne1 he))
  generalize tx (headW 7 s ++ (argsW [e] ++ [(3, scS)])) = t at *
  obtain ⟨b, o, rfl, hB, ⟨d0, d1, d2⟩, A', cap', d3, hr'⟩ := hR.at_ (i := 0) (by simp)
  rw [Nat.zero_mul, Nat.add_zero] at d0 d1 d2 d3
  have e0 : [e][0] = e := rfl
  rw [e0] at d0 d1 d2 d3 hr'
  obtain ⟨c0, c1, c2, c3, c4, hlt, hb⟩ := box5 w (.int .i64 7) (.string s) (.slice (some ⟨b, o, none⟩) 1 p1) (.slice A2 n2 p2) (.slice A3 n3 p3) 209
  have TX := fun W (h : Below w.heap.size w W) => l2Text_any 6 e (validE_form he) 1 (by omega) A' cap' W ((hr'.below h).more h.size) (by have := validE_size he; omega)
  have hse := textW_size he
  have h1 : ((1 : Nat) : Int) = 1 := rfl
  rw [h1] at TX
  have KD := Lib.hid (show ∀ W, Below w.heap.size w W → W.cell? ⟨b, o, none⟩ = some (.int .i64 e.op) ∧ W.cell? ⟨b, o + 1, none⟩ = some (.int .i64 e.n) ∧ W.cell? ⟨b, o + 2, none⟩ = some (.string e.name) ∧ W.cell? ⟨b, o + 3, none⟩ = some (.slice A' e.kids.length cap') from fun W h => ⟨(h.cell (p := ⟨b, _, none⟩) hB).trans d0, (h.cell (p := ⟨b, _, none⟩) hB).trans d1, (h.cell (p := ⟨b, _, none⟩) hB).trans d2, (h.cell (p := ⟨b, _, none⟩) hB).trans d3⟩)
  clear d0 d1 d2 d3 hr' hR e0 h1 he
  unfold exV at TX
  generalize tx (wE e 1) = te at *
  have TX1 := Lib.hid (TX _ hb)
  clear TX
  obtain ⟨k0, k1, k2, k3⟩ := KD.out _ hb
  go_enter Tryz.func171, Tryz.ntmps171
  go_wp2_with fail
  (with_reducible refine Calls.mono TX1.out ?_)
  rintro ee w1 ⟨rfl, hb1⟩
  have hb2 := hb.trans (hb1.mono (Nat.le_of_lt hlt))
  have hl2 := Nat.lt_of_lt_of_le hlt hb1.size
  have m0 := (hb1.cell (p := ⟨w.heap.size, 0, none⟩) hlt).trans c0
  have m1 := (hb1.cell (p := ⟨w.heap.size, 1, none⟩) hlt).trans c1
  have m2 := (hb1.cell (p := ⟨w.heap.size, 2, none⟩) hlt).trans c2
  have m3 := (hb1.cell (p := ⟨w.heap.size, 3, none⟩) hlt).trans c3
  have m4 := (hb1.cell (p := ⟨w.heap.size, 4, none⟩) hlt).trans c4
  clear c0 c1 c2 c3 c4 k0 k1 k2 k3 TX1 hb hb1 hlt
  go_wp2_with fail
  go_ret
  exact ⟨by rw [HT.out]; rfl, hb2⟩
set_option maxHeartbeats 2000000 in
theorem l3Line_op8 (s : ByteArray) (_hs : s.size ≤ 1048576) (e : E) (he : validE e = true) (A1 A2 A3 : Option Addr) (p1 n2 p2 n3 p3 : Nat) (w : World) (hR : RdS w w.heap.size [e] A1) :
    Calls Tryz.prog 171 #[.agg #[.int .i64 8, .string s, .slice A1 1 p1, .slice A2 n2 p2, .slice A3 n3 p3]] w (StrB (tx (headW 8 s ++ (argsW [e] ++ [(3, scS)]))) w) := by
  have HT := Lib.hid (show tx (headW 8 s ++ (argsW [e] ++ [(3, scS)])) = (⟨#[100, 111, 32]⟩ ++ tx (wE e 1)) ++ ⟨#[32, 59]⟩ from by rw [argsW_one]; exact tx_plain 8 [100, 111, 32] rfl (wE_ne1 he))
  generalize tx (headW 8 s ++ (argsW [e] ++ [(3, scS)])) = t at *
  obtain ⟨b, o, rfl, hB, ⟨d0, d1, d2⟩, A', cap', d3, hr'⟩ := hR.at_ (i := 0) (by simp)
  rw [Nat.zero_mul, Nat.add_zero] at d0 d1 d2 d3
  have e0 : [e][0] = e := rfl
  rw [e0] at d0 d1 d2 d3 hr'
  obtain ⟨c0, c1, c2, c3, c4, hlt, hb⟩ := box5 w (.int .i64 8) (.string s) (.slice (some ⟨b, o, none⟩) 1 p1) (.slice A2 n2 p2) (.slice A3 n3 p3) 209
  have TX := fun W (h : Below w.heap.size w W) => l2Text_any 6 e (validE_form he) 1 (by omega) A' cap' W ((hr'.below h).more h.size) (by have := validE_size he; omega)
  have hse := textW_size he
  have h1 : ((1 : Nat) : Int) = 1 := rfl
  rw [h1] at TX
  have KD := Lib.hid (show ∀ W, Below w.heap.size w W → W.cell? ⟨b, o, none⟩ = some (.int .i64 e.op) ∧ W.cell? ⟨b, o + 1, none⟩ = some (.int .i64 e.n) ∧ W.cell? ⟨b, o + 2, none⟩ = some (.string e.name) ∧ W.cell? ⟨b, o + 3, none⟩ = some (.slice A' e.kids.length cap') from fun W h => ⟨(h.cell (p := ⟨b, _, none⟩) hB).trans d0, (h.cell (p := ⟨b, _, none⟩) hB).trans d1, (h.cell (p := ⟨b, _, none⟩) hB).trans d2, (h.cell (p := ⟨b, _, none⟩) hB).trans d3⟩)
  clear d0 d1 d2 d3 hr' hR e0 h1 he
  unfold exV at TX
  generalize tx (wE e 1) = te at *
  have TX1 := Lib.hid (TX _ hb)
  clear TX
  obtain ⟨k0, k1, k2, k3⟩ := KD.out _ hb
  go_enter Tryz.func171, Tryz.ntmps171
  go_wp2_with fail
  (with_reducible refine Calls.mono TX1.out ?_)
  rintro ee w1 ⟨rfl, hb1⟩
  have hb2 := hb.trans (hb1.mono (Nat.le_of_lt hlt))
  have hl2 := Nat.lt_of_lt_of_le hlt hb1.size
  have m0 := (hb1.cell (p := ⟨w.heap.size, 0, none⟩) hlt).trans c0
  have m1 := (hb1.cell (p := ⟨w.heap.size, 1, none⟩) hlt).trans c1
  have m2 := (hb1.cell (p := ⟨w.heap.size, 2, none⟩) hlt).trans c2
  have m3 := (hb1.cell (p := ⟨w.heap.size, 3, none⟩) hlt).trans c3
  have m4 := (hb1.cell (p := ⟨w.heap.size, 4, none⟩) hlt).trans c4
  clear c0 c1 c2 c3 c4 k0 k1 k2 k3 TX1 hb hb1 hlt
  go_wp2_with fail
  go_ret
  exact ⟨by rw [HT.out]; rfl, hb2⟩
set_option maxHeartbeats 2000000 in
theorem l3Line_op4 (s : ByteArray) (e f : E) (he : validE e = true) (hf : validE f = true) (A1 A2 A3 : Option Addr) (p1 n2 p2 n3 p3 : Nat) (w : World) (hR : RdS w w.heap.size [e, f] A1) :
    Calls Tryz.prog 171 #[.agg #[.int .i64 4, .string s, .slice A1 2 p1, .slice A2 n2 p2, .slice A3 n3 p3]] w (StrB (tx (headW 4 s ++ (argsW [e, f] ++ [(3, scS)]))) w) := by
  have HT := Lib.hid (show tx (headW 4 s ++ (argsW [e, f] ++ [(3, scS)])) = (((⟨#[112, 117, 116, 32]⟩ ++ tx (wE e 1)) ++ ⟨#[32, 44, 32]⟩) ++ tx (wE f 1)) ++ ⟨#[32, 59]⟩ from by rw [argsW_two]; exact tx_put (wE_ne1 he) (wE_ne1 hf))
  generalize tx (headW 4 s ++ (argsW [e, f] ++ [(3, scS)])) = t at *
  obtain ⟨b, o, rfl, hB, ⟨d0, d1, d2⟩, A', cap', d3, hr'⟩ := hR.at_ (i := 0) (by simp)
  rw [Nat.zero_mul, Nat.add_zero] at d0 d1 d2 d3
  have e0 : [e, f][0] = e := rfl
  rw [e0] at d0 d1 d2 d3 hr'
  obtain ⟨b_, o_, eA, hB_, ⟨f0, f1, f2⟩, A'', cap'', f3, hr''⟩ := hR.at_ (i := 1) (by simp)
  injection eA with eA
  injection eA with eb eo
  subst eb eo
  have e1 : [e, f][1] = f := rfl
  rw [e1, Nat.one_mul] at f0 f1 f2 f3
  rw [e1] at hr''
  clear e1 hB_
  obtain ⟨c0, c1, c2, c3, c4, hlt, hb⟩ := box5 w (.int .i64 4) (.string s) (.slice (some ⟨b, o, none⟩) 2 p1) (.slice A2 n2 p2) (.slice A3 n3 p3) 209
  have TX := fun W (h : Below w.heap.size w W) => l2Text_any 6 e (validE_form he) 1 (by omega) A' cap' W ((hr'.below h).more h.size) (by have := validE_size he; omega)
  have TY := fun W (h : Below w.heap.size w W) => l2Text_any 6 f (validE_form hf) 1 (by omega) A'' cap'' W ((hr''.below h).more h.size) (by have := validE_size hf; omega)
  have hsf := textW_size hf
  have hse := textW_size he
  have h1 : ((1 : Nat) : Int) = 1 := rfl
  rw [h1] at TX TY
  have KD := Lib.hid (show ∀ W, Below w.heap.size w W → W.cell? ⟨b, o, none⟩ = some (.int .i64 e.op) ∧ W.cell? ⟨b, o + 1, none⟩ = some (.int .i64 e.n) ∧ W.cell? ⟨b, o + 2, none⟩ = some (.string e.name) ∧ W.cell? ⟨b, o + 3, none⟩ = some (.slice A' e.kids.length cap') from fun W h => ⟨(h.cell (p := ⟨b, _, none⟩) hB).trans d0, (h.cell (p := ⟨b, _, none⟩) hB).trans d1, (h.cell (p := ⟨b, _, none⟩) hB).trans d2, (h.cell (p := ⟨b, _, none⟩) hB).trans d3⟩)
  have KF := Lib.hid (show ∀ W, Below w.heap.size w W → W.cell? ⟨b, o + 4, none⟩ = some (.int .i64 f.op) ∧ W.cell? ⟨b, o + 4 + 1, none⟩ = some (.int .i64 f.n) ∧ W.cell? ⟨b, o + 4 + 2, none⟩ = some (.string f.name) ∧ W.cell? ⟨b, o + 4 + 3, none⟩ = some (.slice A'' f.kids.length cap'') from fun W h => ⟨(h.cell (p := ⟨b, _, none⟩) hB).trans f0, (h.cell (p := ⟨b, _, none⟩) hB).trans f1, (h.cell (p := ⟨b, _, none⟩) hB).trans f2, (h.cell (p := ⟨b, _, none⟩) hB).trans f3⟩)
  clear f0 f1 f2 f3 hr''
  clear d0 d1 d2 d3 hr' hR e0 h1 he hf
  unfold exV at TX TY
  generalize tx (wE e 1) = te at *
  generalize tx (wE f 1) = tf at *
  have TX1 := Lib.hid (TX _ hb)
  clear TX
  replace TY := fun W h => Lib.hid (TY W h)
  obtain ⟨k0, k1, k2, k3⟩ := KD.out _ hb
  go_enter Tryz.func171, Tryz.ntmps171
  go_wp2_with fail
  (with_reducible refine Calls.mono TX1.out ?_)
  rintro ee w1 ⟨rfl, hb1⟩
  have hb2 := hb.trans (hb1.mono (Nat.le_of_lt hlt))
  have hl2 := Nat.lt_of_lt_of_le hlt hb1.size
  have m0 := (hb1.cell (p := ⟨w.heap.size, 0, none⟩) hlt).trans c0
  have m1 := (hb1.cell (p := ⟨w.heap.size, 1, none⟩) hlt).trans c1
  have m2 := (hb1.cell (p := ⟨w.heap.size, 2, none⟩) hlt).trans c2
  have m3 := (hb1.cell (p := ⟨w.heap.size, 3, none⟩) hlt).trans c3
  have m4 := (hb1.cell (p := ⟨w.heap.size, 4, none⟩) hlt).trans c4
  clear c0 c1 c2 c3 c4 k0 k1 k2 k3 TX1 hb hb1 hlt
  obtain ⟨k0, k1, k2, k3⟩ := KF.out w1 hb2
  have TY1 := Lib.hid (TY w1 hb2).out
  clear TY
  go_wp2_with fail
  (with_reducible refine Calls.mono TY1.out ?_)
  rintro ee w3 ⟨rfl, hb3⟩
  have hb4 := hb2.trans (hb3.mono hb2.size)
  clear hb3 m0 m1 m2 m3 m4 k0 k1 k2 k3 TY1
  go_wp2_with fail
  go_ret
  exact ⟨by rw [HT.out]; rfl, hb4⟩
/-- What the model's l3Block does, for statements nested at most so deep. -/
def SpBlk (d : Nat) : Prop := ∀ (ks : List St) (_ : ∀ t ∈ ks, formT d t = true) (_ : sizeTL ks ≤ 1000000) (_ : bulkTL ks ≤ 1048576) (A : Option Addr) (cap : Nat) (w : World), StS w (Lt w.heap.size) ks A →
  Calls Tryz.prog 121 #[.slice A ks.length cap] w (StrB (tx (blkW ks)) w)
set_option maxHeartbeats 2000000 in
theorem l3Line_op6 (d : Nat) (HB : SpBlk d) (s : ByteArray) (e : E) (he : validE e = true) (bd el : List St) (hbd : ∀ t ∈ bd, formT d t = true) (hsb : sizeTL bd ≤ 1000000) (hkb : bulkTL bd ≤ 1048576) (A1 A2 A3 : Option Addr) (p1 p2 p3 : Nat) (w : World) (hR : RdS w w.heap.size [e] A1) (hS : StS w (Lt w.heap.size) bd A2) :
    Calls Tryz.prog 171 #[.agg #[.int .i64 6, .string s, .slice A1 1 p1, .slice A2 bd.length p2, .slice A3 el.length p3]] w (StrB (tx (headW 6 s ++ (argsW [e] ++ blkW bd))) w) := by
  have hsz := blk_size hbd hsb
  have BX := fun W (h : Below w.heap.size w W) => Lib.hid (HB bd hbd hsb hkb A2 p2 W (hS.on h h.size))
  have HT := Lib.hid (show tx (headW 6 s ++ (argsW [e] ++ blkW bd)) = ((⟨#[108, 111, 111, 112, 32]⟩ ++ tx (wE e 1)) ++ ⟨#[32]⟩) ++ tx (blkW bd) from by rw [argsW_one]; exact tx_blk 6 [108, 111, 111, 112, 32] rfl (wE_ne1 he) (blkW_ne bd))
  generalize tx (headW 6 s ++ (argsW [e] ++ blkW bd)) = t at *
  clear hS hbd hsb hkb
  generalize tx (blkW bd) = tb at *
  generalize bd.length = n2 at *
  generalize el.length = n3 at *
  clear HB
  obtain ⟨b, o, rfl, hB, ⟨d0, d1, d2⟩, A', cap', d3, hr'⟩ := hR.at_ (i := 0) (by simp)
  rw [Nat.zero_mul, Nat.add_zero] at d0 d1 d2 d3
  have e0 : [e][0] = e := rfl
  rw [e0] at d0 d1 d2 d3 hr'
  obtain ⟨c0, c1, c2, c3, c4, hlt, hb⟩ := box5 w (.int .i64 6) (.string s) (.slice (some ⟨b, o, none⟩) 1 p1) (.slice A2 n2 p2) (.slice A3 n3 p3) 209
  have TX := fun W (h : Below w.heap.size w W) => l2Text_any 6 e (validE_form he) 1 (by omega) A' cap' W ((hr'.below h).more h.size) (by have := validE_size he; omega)
  have hse := textW_size he
  have h1 : ((1 : Nat) : Int) = 1 := rfl
  rw [h1] at TX
  have KD := Lib.hid (show ∀ W, Below w.heap.size w W → W.cell? ⟨b, o, none⟩ = some (.int .i64 e.op) ∧ W.cell? ⟨b, o + 1, none⟩ = some (.int .i64 e.n) ∧ W.cell? ⟨b, o + 2, none⟩ = some (.string e.name) ∧ W.cell? ⟨b, o + 3, none⟩ = some (.slice A' e.kids.length cap') from fun W h => ⟨(h.cell (p := ⟨b, _, none⟩) hB).trans d0, (h.cell (p := ⟨b, _, none⟩) hB).trans d1, (h.cell (p := ⟨b, _, none⟩) hB).trans d2, (h.cell (p := ⟨b, _, none⟩) hB).trans d3⟩)
  clear d0 d1 d2 d3 hr' hR e0 h1 he
  unfold exV at TX
  generalize tx (wE e 1) = te at *
  have TX1 := Lib.hid (TX _ hb)
  clear TX
  obtain ⟨k0, k1, k2, k3⟩ := KD.out _ hb
  go_enter Tryz.func171, Tryz.ntmps171
  go_wp2_with fail
  (with_reducible refine Calls.mono TX1.out ?_)
  rintro ee w1 ⟨rfl, hb1⟩
  have hb2 := hb.trans (hb1.mono (Nat.le_of_lt hlt))
  have hl2 := Nat.lt_of_lt_of_le hlt hb1.size
  have m0 := (hb1.cell (p := ⟨w.heap.size, 0, none⟩) hlt).trans c0
  have m1 := (hb1.cell (p := ⟨w.heap.size, 1, none⟩) hlt).trans c1
  have m2 := (hb1.cell (p := ⟨w.heap.size, 2, none⟩) hlt).trans c2
  have m3 := (hb1.cell (p := ⟨w.heap.size, 3, none⟩) hlt).trans c3
  have m4 := (hb1.cell (p := ⟨w.heap.size, 4, none⟩) hlt).trans c4
  clear c0 c1 c2 c3 c4 k0 k1 k2 k3 TX1 hb hb1 hlt
  have BX1 := Lib.hid (BX w1 hb2).out
  clear BX
  go_wp2_with fail
  (with_reducible refine Calls.mono BX1.out ?_)
  rintro ee w3 ⟨rfl, hb3⟩
  have hb4 := hb2.trans (hb3.mono hb2.size)
  clear hb3 m0 m1 m2 m3 m4 BX1
  go_wp2_with fail
  go_ret
  exact ⟨by rw [HT.out]; rfl, hb4⟩
set_option maxHeartbeats 2000000 in
theorem l3Line_op5a (d : Nat) (HB : SpBlk d) (s : ByteArray) (e : E) (he : validE e = true) (bd el : List St) (hbd : ∀ t ∈ bd, formT d t = true) (hsb : sizeTL bd ≤ 1000000) (hkb : bulkTL bd ≤ 1048576) (hel : el = []) (A1 A2 A3 : Option Addr) (p1 p2 p3 : Nat) (w : World) (hR : RdS w w.heap.size [e] A1) (hS : StS w (Lt w.heap.size) bd A2) :
    Calls Tryz.prog 171 #[.agg #[.int .i64 5, .string s, .slice A1 1 p1, .slice A2 bd.length p2, .slice A3 el.length p3]] w (StrB (tx (headW 5 s ++ (argsW [e] ++ blkW bd))) w) := by
  have hsz := blk_size hbd hsb
  have BX := fun W (h : Below w.heap.size w W) => Lib.hid (HB bd hbd hsb hkb A2 p2 W (hS.on h h.size))
  have HT := Lib.hid (show tx (headW 5 s ++ (argsW [e] ++ blkW bd)) = ((⟨#[105, 102, 32]⟩ ++ tx (wE e 1)) ++ ⟨#[32]⟩) ++ tx (blkW bd) from by rw [argsW_one]; exact tx_blk 5 [105, 102, 32] rfl (wE_ne1 he) (blkW_ne bd))
  generalize tx (headW 5 s ++ (argsW [e] ++ blkW bd)) = t at *
  clear hS hbd hsb hkb
  have hn3 : el.length = 0 := by rw [hel]; rfl
  generalize tx (blkW bd) = tb at *
  generalize bd.length = n2 at *
  generalize el.length = n3 at *
  have q0 : ¬ (0 : Int) < n3 := by omega
  clear HB hel hn3
  obtain ⟨b, o, rfl, hB, ⟨d0, d1, d2⟩, A', cap', d3, hr'⟩ := hR.at_ (i := 0) (by simp)
  rw [Nat.zero_mul, Nat.add_zero] at d0 d1 d2 d3
  have e0 : [e][0] = e := rfl
  rw [e0] at d0 d1 d2 d3 hr'
  obtain ⟨c0, c1, c2, c3, c4, hlt, hb⟩ := box5 w (.int .i64 5) (.string s) (.slice (some ⟨b, o, none⟩) 1 p1) (.slice A2 n2 p2) (.slice A3 n3 p3) 209
  have TX := fun W (h : Below w.heap.size w W) => l2Text_any 6 e (validE_form he) 1 (by omega) A' cap' W ((hr'.below h).more h.size) (by have := validE_size he; omega)
  have hse := textW_size he
  have h1 : ((1 : Nat) : Int) = 1 := rfl
  rw [h1] at TX
  have KD := Lib.hid (show ∀ W, Below w.heap.size w W → W.cell? ⟨b, o, none⟩ = some (.int .i64 e.op) ∧ W.cell? ⟨b, o + 1, none⟩ = some (.int .i64 e.n) ∧ W.cell? ⟨b, o + 2, none⟩ = some (.string e.name) ∧ W.cell? ⟨b, o + 3, none⟩ = some (.slice A' e.kids.length cap') from fun W h => ⟨(h.cell (p := ⟨b, _, none⟩) hB).trans d0, (h.cell (p := ⟨b, _, none⟩) hB).trans d1, (h.cell (p := ⟨b, _, none⟩) hB).trans d2, (h.cell (p := ⟨b, _, none⟩) hB).trans d3⟩)
  clear d0 d1 d2 d3 hr' hR e0 h1 he
  unfold exV at TX
  generalize tx (wE e 1) = te at *
  have TX1 := Lib.hid (TX _ hb)
  clear TX
  obtain ⟨k0, k1, k2, k3⟩ := KD.out _ hb
  go_enter Tryz.func171, Tryz.ntmps171
  go_wp2_with fail
  (with_reducible refine Calls.mono TX1.out ?_)
  rintro ee w1 ⟨rfl, hb1⟩
  have hb2 := hb.trans (hb1.mono (Nat.le_of_lt hlt))
  have hl2 := Nat.lt_of_lt_of_le hlt hb1.size
  have m0 := (hb1.cell (p := ⟨w.heap.size, 0, none⟩) hlt).trans c0
  have m1 := (hb1.cell (p := ⟨w.heap.size, 1, none⟩) hlt).trans c1
  have m2 := (hb1.cell (p := ⟨w.heap.size, 2, none⟩) hlt).trans c2
  have m3 := (hb1.cell (p := ⟨w.heap.size, 3, none⟩) hlt).trans c3
  have m4 := (hb1.cell (p := ⟨w.heap.size, 4, none⟩) hlt).trans c4
  clear c0 c1 c2 c3 c4 k0 k1 k2 k3 TX1 hb hb1 hlt
  have BX1 := Lib.hid (BX w1 hb2).out
  clear BX
  go_wp2_with fail
  (with_reducible refine Calls.mono BX1.out ?_)
  rintro ee w3 ⟨rfl, hb3⟩
  have hb4 := hb2.trans (hb3.mono hb2.size)
  have r4 := (hb3.cell (p := ⟨w.heap.size, 4, none⟩) hl2).trans m4
  clear hb3 m0 m1 m2 m3 m4 BX1
  go_wp2_with fail
  go_ret
  exact ⟨by rw [HT.out]; rfl, hb4⟩
set_option maxHeartbeats 2000000 in
theorem l3Line_op5b (d : Nat) (HB : SpBlk d) (s : ByteArray) (e : E) (he : validE e = true) (bd el : List St) (hbd : ∀ t ∈ bd, formT d t = true) (hsb : sizeTL bd ≤ 1000000) (hkb : bulkTL bd ≤ 1048576) (hee : ∀ t ∈ el, formT d t = true) (hse' : sizeTL el ≤ 1000000) (hke : bulkTL el ≤ 1048576) (hel : el ≠ []) (A1 A2 A3 : Option Addr) (p1 p2 p3 : Nat) (w : World) (hR : RdS w w.heap.size [e] A1) (hS : StS w (Lt w.heap.size) bd A2) (hS' : StS w (Lt w.heap.size) el A3) :
    Calls Tryz.prog 171 #[.agg #[.int .i64 5, .string s, .slice A1 1 p1, .slice A2 bd.length p2, .slice A3 el.length p3]] w (StrB (tx (headW 5 s ++ (argsW [e] ++ (blkW bd ++ (4, elseS) :: blkW el)))) w) := by
  have hsz := blk_size hbd hsb
  have BX := fun W (h : Below w.heap.size w W) => Lib.hid (HB bd hbd hsb hkb A2 p2 W (hS.on h h.size))
  have HT := Lib.hid (show tx (headW 5 s ++ (argsW [e] ++ (blkW bd ++ (4, elseS) :: blkW el))) = ((((⟨#[105, 102, 32]⟩ ++ tx (wE e 1)) ++ ⟨#[32]⟩) ++ tx (blkW bd)) ++ ⟨#[32, 101, 108, 115, 101, 32]⟩) ++ tx (blkW el) from by rw [argsW_one, ← List.append_assoc, ← List.append_assoc, tx_else (fun h => blkW_ne bd (List.append_eq_nil_iff.1 h).2) (blkW_ne el), List.append_assoc]; exact congrArg (fun u => (u ++ (⟨#[32, 101, 108, 115, 101, 32]⟩ : ByteArray)) ++ tx (blkW el)) (tx_blk 5 [105, 102, 32] rfl (wE_ne1 he) (blkW_ne bd)))
  generalize tx (headW 5 s ++ (argsW [e] ++ (blkW bd ++ (4, elseS) :: blkW el))) = t at *
  clear hS hbd hsb hkb
  have hsz' := blk_size hee hse'
  have EX := fun W (h : Below w.heap.size w W) => Lib.hid (HB el hee hse' hke A3 p3 W (hS'.on h h.size))
  have hpos : 0 < el.length := List.length_pos_iff.2 hel
  have hnl : el.length ≤ 1000000 := by have := length_le_sizeTL el; omega
  clear HB hS' hee hse' hke hel
  generalize tx (blkW bd) = tb at *
  generalize tx (blkW el) = tl at *
  generalize bd.length = n2 at *
  generalize el.length = n3 at *
  have q0 : (0 : Int) < n3 := by omega
  obtain ⟨b, o, rfl, hB, ⟨d0, d1, d2⟩, A', cap', d3, hr'⟩ := hR.at_ (i := 0) (by simp)
  rw [Nat.zero_mul, Nat.add_zero] at d0 d1 d2 d3
  have e0 : [e][0] = e := rfl
  rw [e0] at d0 d1 d2 d3 hr'
  obtain ⟨c0, c1, c2, c3, c4, hlt, hb⟩ := box5 w (.int .i64 5) (.string s) (.slice (some ⟨b, o, none⟩) 1 p1) (.slice A2 n2 p2) (.slice A3 n3 p3) 209
  have TX := fun W (h : Below w.heap.size w W) => l2Text_any 6 e (validE_form he) 1 (by omega) A' cap' W ((hr'.below h).more h.size) (by have := validE_size he; omega)
  have hse := textW_size he
  have h1 : ((1 : Nat) : Int) = 1 := rfl
  rw [h1] at TX
  have KD := Lib.hid (show ∀ W, Below w.heap.size w W → W.cell? ⟨b, o, none⟩ = some (.int .i64 e.op) ∧ W.cell? ⟨b, o + 1, none⟩ = some (.int .i64 e.n) ∧ W.cell? ⟨b, o + 2, none⟩ = some (.string e.name) ∧ W.cell? ⟨b, o + 3, none⟩ = some (.slice A' e.kids.length cap') from fun W h => ⟨(h.cell (p := ⟨b, _, none⟩) hB).trans d0, (h.cell (p := ⟨b, _, none⟩) hB).trans d1, (h.cell (p := ⟨b, _, none⟩) hB).trans d2, (h.cell (p := ⟨b, _, none⟩) hB).trans d3⟩)
  clear d0 d1 d2 d3 hr' hR e0 h1 he
  unfold exV at TX
  generalize tx (wE e 1) = te at *
  have TX1 := Lib.hid (TX _ hb)
  clear TX
  obtain ⟨k0, k1, k2, k3⟩ := KD.out _ hb
  go_enter Tryz.func171, Tryz.ntmps171
  go_wp2_with fail
  (with_reducible refine Calls.mono TX1.out ?_)
  rintro ee w1 ⟨rfl, hb1⟩
  have hb2 := hb.trans (hb1.mono (Nat.le_of_lt hlt))
  have hl2 := Nat.lt_of_lt_of_le hlt hb1.size
  have m0 := (hb1.cell (p := ⟨w.heap.size, 0, none⟩) hlt).trans c0
  have m1 := (hb1.cell (p := ⟨w.heap.size, 1, none⟩) hlt).trans c1
  have m2 := (hb1.cell (p := ⟨w.heap.size, 2, none⟩) hlt).trans c2
  have m3 := (hb1.cell (p := ⟨w.heap.size, 3, none⟩) hlt).trans c3
  have m4 := (hb1.cell (p := ⟨w.heap.size, 4, none⟩) hlt).trans c4
  clear c0 c1 c2 c3 c4 k0 k1 k2 k3 TX1 hb hb1 hlt
  have BX1 := Lib.hid (BX w1 hb2).out
  clear BX
  go_wp2_with fail
  (with_reducible refine Calls.mono BX1.out ?_)
  rintro ee w3 ⟨rfl, hb3⟩
  have hb4 := hb2.trans (hb3.mono hb2.size)
  have r4 := (hb3.cell (p := ⟨w.heap.size, 4, none⟩) hl2).trans m4
  have EX1 := Lib.hid (EX w3 hb4).out
  clear hb3 m0 m1 m2 m3 m4 BX1 EX
  go_wp2_with fail
  (with_reducible refine Calls.mono EX1.out ?_)
  rintro ee w5 ⟨rfl, hb5⟩
  have hb6 := hb4.trans (hb5.mono hb4.size)
  clear hb5 r4 EX1
  go_wp2_with fail
  go_ret
  exact ⟨by rw [HT.out]; rfl, hb6⟩
theorem list_one {α : Type} {l : List α} (h : l.length = 1) : ∃ e, l = [e] := by
  match l, h with
  | [e], _ => exact ⟨e, rfl⟩
theorem list_two {α : Type} {l : List α} (h : l.length = 2) : ∃ e f, l = [e, f] := by
  match l, h with
  | [e, f], _ => exact ⟨e, f, rfl⟩
theorem l3Line_of (d : Nat) (HB : SpBlk d) (t : St) (ht : formT (d + 1) t = true) (hs : sizeT t ≤ 1000000) (hbk : bulkT t ≤ 1048576) (v : Value) (w : World) (hV : StV w (Lt w.heap.size) t v) :
    Calls Tryz.prog 171 #[v] w (StrB (tx (wT t)) w) := by
  obtain ⟨A1, p1, A2, p2, A3, p3, rfl, r1, r2, r3⟩ := hV
  obtain ⟨h0, hn, hal, hao, hbf, hef⟩ := head_parts (form_head ht)
  obtain ⟨hb, he⟩ := form_body ht
  rw [sizeT_kids] at hs
  rw [bulkT_kids] at hbk
  rw [wT_eq]
  obtain ⟨op, s, a, bd, el⟩ := t
  dsimp only [St.op, St.name, St.args, St.body, St.els] at *
  have hr := r1.lt_rd
  have hop : op = 1 ∨ op = 2 ∨ op = 3 ∨ op = 4 ∨ op = 5 ∨ op = 6 ∨ op = 7 ∨ op = 8 := by omega
  have hl0 : el.length = 0 → el = [] := List.length_eq_zero_iff.1
  rcases hop with rfl | rfl | rfl | rfl | rfl | rfl | rfl | rfl
  · obtain ⟨e, rfl⟩ := list_one hal
    exact l3Line_op1 s (by omega) e (arg_valid (hao e (by simp))) A1 A2 A3 p1 _ p2 _ p3 w hr
  · obtain ⟨e, rfl⟩ := list_one hal
    exact l3Line_op2 s (by omega) e (arg_valid (hao e (by simp))) A1 A2 A3 p1 _ p2 _ p3 w hr
  · obtain ⟨e, rfl⟩ := list_one hal
    exact l3Line_op3 s (by omega) e (arg_valid (hao e (by simp))) A1 A2 A3 p1 _ p2 _ p3 w hr
  · obtain ⟨e, f, rfl⟩ := list_two hal
    exact l3Line_op4 s e f (arg_valid (hao e (by simp))) (arg_valid (hao f (by simp))) A1 A2 A3 p1 _ p2 _ p3 w hr
  · obtain ⟨e, rfl⟩ := list_one hal
    by_cases hel : el = []
    · subst hel
      have h := l3Line_op5a d HB s e (arg_valid (hao e (by simp))) bd [] hb (by omega) (by omega) rfl A1 A2 A3 p1 p2 p3 w hr r2
      have e1 : tailW 5 bd [] = blkW bd := by unfold tailW; rw [if_pos (by decide)]; show blkW bd ++ [] = blkW bd; rw [List.append_nil]
      rw [e1]
      exact h
    · have h := l3Line_op5b d HB s e (arg_valid (hao e (by simp))) bd el hb (by omega) (by omega) he (by omega) (by omega) hel A1 A2 A3 p1 p2 p3 w hr r2 r3
      have e1 : tailW 5 bd el = blkW bd ++ (4, elseS) :: blkW el := by unfold tailW; rw [if_pos (by decide), if_neg (by simp [hel])]
      rw [e1]
      exact h
  · obtain ⟨e, rfl⟩ := list_one hal
    have hel : el = [] := hl0 (by omega)
    subst hel
    have h := l3Line_op6 d HB s e (arg_valid (hao e (by simp))) bd [] hb (by omega) (by omega) A1 A2 A3 p1 p2 p3 w hr r2
    have e1 : tailW 6 bd [] = blkW bd := by unfold tailW; rw [if_pos (by decide)]; show blkW bd ++ [] = blkW bd; rw [List.append_nil]
    rw [e1]
    exact h
  · obtain ⟨e, rfl⟩ := list_one hal
    exact l3Line_op7 s (by omega) e (arg_valid (hao e (by simp))) A1 A2 A3 p1 _ p2 _ p3 w hr
  · obtain ⟨e, rfl⟩ := list_one hal
    exact l3Line_op8 s (by omega) e (arg_valid (hao e (by simp))) A1 A2 A3 p1 _ p2 _ p3 w hr
set_option maxHeartbeats 2000000 in
theorem l3Block_of (d : Nat) (IH : ∀ (t : St) (_ : formT d t = true) (_ : sizeT t ≤ 1000000) (_ : bulkT t ≤ 1048576) (v : Value) (w : World), StV w (Lt w.heap.size) t v → Calls Tryz.prog 171 #[v] w (StrB (tx (wT t)) w))
    (ks : List St) (hks : ∀ t ∈ ks, formT d t = true) (hsz : sizeTL ks ≤ 1000000) (hbk : bulkTL ks ≤ 1048576) (A : Option Addr) (cap : Nat) (w : World) (hR : StS w (Lt w.heap.size) ks A) :
    Calls Tryz.prog 121 #[.slice A ks.length cap] w (StrB (tx (blkW ks)) w) := by
  have hn : ks.length ≤ 1000000 := by have := length_le_sizeTL ks; omega
  have HV := Lib.hid (show ∀ k, AllV ((3, lbS) :: wTL (ks.take k)) from fun k => AllV.cons valid_lb (wTL_valid (d := d) fun t ht => hks t (List.mem_of_mem_take ht)))
  have HSZ := Lib.hid (show ∀ k, (tx ((3, lbS) :: wTL (ks.take k))).size ≤ 2000000010 from fun k => by
    have h1 := tx_size (HV.out k)
    have h2 := wTL_len (d := d) (l := ks.take k) fun t ht => hks t (List.mem_of_mem_take ht)
    have h3 := sizeTL_take_le ks k
    rw [List.length_cons] at h1
    omega)
  have HS1 := Lib.hid (show ∀ k, (h : k < ks.length) → (tx (wT ks[k])).size ≤ 2000000010 from fun k h => by
    have h1 := tx_size (wT_valid d _ (hks _ (List.getElem_mem h)))
    have h2 := wT_len d _ (hks _ (List.getElem_mem h))
    have h3 := sizeTL_get h
    omega)
  have HT := Lib.hid (show ∀ k, (h : k < ks.length) → tx ((3, lbS) :: wTL (ks.take (k + 1))) = (tx ((3, lbS) :: wTL (ks.take k)) ++ ⟨#[32]⟩) ++ tx (wT ks[k]) from fun k h => by
    rw [wTL_take h, ← List.cons_append, tx_app (by simp) (wT_ne _)])
  have HE := Lib.hid (show tx (blkW ks) = tx ((3, lbS) :: wTL (ks.take ks.length)) ++ ⟨#[32, 125]⟩ by
    rw [List.take_length]
    exact tx_snoc 3 125 (l := (3, lbS) :: wTL ks) (by simp))
  have HZ := Lib.hid (show tx ((3, lbS) :: wTL (ks.take 0)) = ⟨#[123]⟩ from tx_one 3 lbS)
  have HR := Lib.hid hR
  have HI := Lib.hid (fun k (h : k < ks.length) => IH ks[k] (hks _ (List.getElem_mem h)) (by have := sizeTL_get h; omega) (by have := bulkTL_mem (List.getElem_mem h); omega))
  clear hR hks IH hsz hbk
  go_enter Tryz.func121, Tryz.ntmps121
  go_wp2_with fail
  go_loopw [3, 4] (fun s i wr => ∃ k : Nat, k ≤ ks.length ∧ i = .int .i64 k ∧ s = .string (tx ((3, lbS) :: wTL (ks.take k))) ∧ Below w.heap.size w wr) (fun _ i _ => ks.length - (intOf i).toNat)
  case atStart => exact ⟨0, Nat.zero_le _, rfl, by rw [HZ.out], Below.refl _ _⟩
  case round =>
    obtain ⟨k, hk, rfl, rfl, hb⟩ := hrel
    have hbs := hb.size
    have hs1 := HSZ.out k
    by_cases hlk : k < ks.length
    · obtain ⟨b, o, rfl, hB, ⟨d0, d1⟩, ⟨A1, p1, d2, r1⟩, ⟨A2, p2, d3, r2⟩, A3, p3, d4, r3⟩ := (HR.out.on hb hbs).at_ hlk
      have CV := HI.out k hlk _ wr ⟨A1, p1, A2, p2, A3, p3, rfl, r1, r2, r3⟩
      have hs2 := HS1.out k hlk
      have HN := Lib.hid (HT.out k hlk)
      clear r1 r2 r3
      generalize hkd : ks[k] = kid at *
      clear hkd
      obtain ⟨op, s, a, bd, el⟩ := kid
      dsimp only [St.op, St.name, St.args, St.body, St.els] at d0 d1 d2 d3 d4 CV
      generalize tx (wT (St.mk op s a bd el)) = tk at *
      generalize tx ((3, lbS) :: wTL (ks.take k)) = tl at *
      replace CV := Lib.hid CV
      go_wp2_with fail
      (with_reducible refine Calls.mono CV.out ?_)
      rintro ee w2 ⟨rfl, hb2⟩
      have hb3 := hb.trans (hb2.mono hbs)
      clear hb hb2 d0 d1 d2 d3 d4 CV
      go_wp2_with fail
      go_roundw
      case rel => exact ⟨k + 1, by omega, by go_num, by rw [HN.out], hb3⟩
      case measure => simp only [intOf]; omega
    · obtain rfl : k = ks.length := by omega
      generalize tx ((3, lbS) :: wTL (ks.take ks.length)) = tl at *
      go_wp2_with fail
      go_ret
      exact ⟨by rw [HE.out]; rfl, hb⟩
theorem l3Both_any : ∀ (d : Nat), (∀ (t : St) (_ : formT d t = true) (_ : sizeT t ≤ 1000000) (_ : bulkT t ≤ 1048576) (v : Value) (w : World), StV w (Lt w.heap.size) t v → Calls Tryz.prog 171 #[v] w (StrB (tx (wT t)) w))
  | 0, t, ht, _, _, _, _, _ => by cases ht
  | d + 1, t, ht, hs, hbk, v, w, hV => by
    exact l3Line_of d (fun ks hks hsz hb A cap w hR => l3Block_of d (l3Both_any d) ks hks hsz hb A cap w hR) t ht hs hbk v w hV
theorem l3Block_any (d : Nat) : SpBlk d := fun ks hks hsz hb A cap w hR => l3Block_of d (l3Both_any d) ks hks hsz hb A cap w hR

end Go.Proofs.YtljdbjfbcjigaaaGreatDoor
