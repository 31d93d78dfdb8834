/-
  NumbersFor of the program.
-/
import Derived.Test.YtomhomnibikceaaDoorYN
namespace Go.Proofs.YtomhomnibikceaaDoor
open Go.RowKit
set_option maxRecDepth 100000

/-- How many lists, and how many numbers each has. -/
def numM (u : Un) : Nat := if unB u then 3 else 0
def numN (u : Un) : Nat := if unB u then (match u.codes[u.codes.length - 1]? with | some c => c.params.toNat | none => 0) else 0
theorem numN_at {u : Un} (h : unB u = true) : ∃ L, ∃ hL : u.codes.length = L + 1, (u.codes[L]'(by omega)).params = (numN u : Int) ∧ numN u ≤ 3 := by
  have h' := (unB_iff u).1 h
  refine ⟨u.codes.length - 1, by omega, ?_⟩
  have hs := of_decide_eq_true (show decide _ = true from h'.2.1 (u.codes.length - 1) (by omega))
  unfold numN
  rw [h, if_pos rfl, List.getElem?_eq_getElem (by omega)]
  dsimp only
  omega
theorem numN_le (u : Un) : numN u ≤ 3 := by
  by_cases h : unB u = true
  · obtain ⟨_, _, _, h3⟩ := numN_at h; exact h3
  · have h' : unB u = false := by simpa using h
    unfold numN; rw [h']; exact Nat.zero_le _
theorem numM_le (u : Un) : numM u ≤ 3 := by unfold numM; split <;> omega
/-- The outer row while its first k slices are cut. -/
def cutZ (s n k : Nat) : List Value := outZ s (if 0 < k then n else 3) (if 1 < k then n else 3) (if 2 < k then n else 3)
set_option maxHeartbeats 4000000 in
theorem someInputs_any (n : Nat) (hn : n ≤ 3) (w : World) :
    Calls Tryd.prog 25 #[.int .i64 n] w fun e w' => e = .returned (.slice (some ⟨w.heap.size + 3, 0, none⟩) 3 3) ∧ Own3 w' w.heap.size n n n (rowZ n 0 false) (rowZ n 1 false) (rowZ n 2 false) ∧ Below w.heap.size w w' := by
  have b0 := Bz.new w 3 (iCz (numsI 0))
  have hb0 := (Below.refl w.heap.size w).alloc (Nat.le_refl _) (.cells (iCz (numsI 0)).toArray 3)
  have e0 : w.alloc (.cells (iCz (numsI 0)).toArray 3) = w.alloc (.cells #[.int .i64 0, .int .i64 0, .int .i64 0] 3) := rfl
  rw [e0] at b0 hb0
  have z0 : (w.alloc (.cells #[.int .i64 0, .int .i64 0, .int .i64 0] 3)).heap.size = w.heap.size + 1 := World.size_alloc _ _
  obtain ⟨w0, ew0⟩ : ∃ x, x = w.alloc (.cells #[.int .i64 0, .int .i64 0, .int .i64 0] 3) := ⟨_, rfl⟩
  rw [← ew0] at b0 hb0 z0
  have b1 := Bz.new w0 3 (iCz (numsI 1))
  have e1 : w0.alloc (.cells (iCz (numsI 1)).toArray 3) = w0.alloc (.cells #[.int .i64 1, .int .i64 2, .int .i64 3] 3) := rfl
  have hc1 := (Below.refl w0.heap.size w0).alloc (Nat.le_refl _) (.cells (iCz (numsI 1)).toArray 3)
  rw [e1] at b1 hc1
  have z1 : (w0.alloc (.cells #[.int .i64 1, .int .i64 2, .int .i64 3] 3)).heap.size = w0.heap.size + 1 := World.size_alloc _ _
  obtain ⟨w1, ew1⟩ : ∃ x, x = w0.alloc (.cells #[.int .i64 1, .int .i64 2, .int .i64 3] 3) := ⟨_, rfl⟩
  rw [← ew1] at b1 hc1 z1
  have b2 := Bz.new w1 3 (iCz (numsI 2))
  have e2 : w1.alloc (.cells (iCz (numsI 2)).toArray 3) = w1.alloc (.cells #[.int .i64 255, .int .i64 16, .int .i64 7] 3) := rfl
  have hc2 := (Below.refl w1.heap.size w1).alloc (Nat.le_refl _) (.cells (iCz (numsI 2)).toArray 3)
  rw [e2] at b2 hc2
  have z2 : (w1.alloc (.cells #[.int .i64 255, .int .i64 16, .int .i64 7] 3)).heap.size = w1.heap.size + 1 := World.size_alloc _ _
  obtain ⟨w2, ew2⟩ : ∃ x, x = w1.alloc (.cells #[.int .i64 255, .int .i64 16, .int .i64 7] 3) := ⟨_, rfl⟩
  rw [← ew2] at b2 hc2 z2
  rw [z0] at b1
  rw [z1, z0] at b2
  have s1 : w1.heap.size = w.heap.size + 2 := by omega
  have s2 : w2.heap.size = w.heap.size + 3 := by omega
  have b3 := Bz.new w2 48 (outZ w.heap.size 3 3 3)
  have hc3 := (Below.refl w2.heap.size w2).alloc (Nat.le_refl _) (.cells (outZ w.heap.size 3 3 3).toArray 48)
  have e3 : w2.alloc (.cells (outZ w.heap.size 3 3 3).toArray 48) = w2.alloc (.cells #[.slice (some ⟨w.heap.size, 0, none⟩) 3 3, .slice (some ⟨w.heap.size + 1, 0, none⟩) 3 3, .slice (some ⟨w.heap.size + 2, 0, none⟩) 3 3] 48) := rfl
  rw [e3] at b3 hc3
  have z3 : (w2.alloc (.cells #[.slice (some ⟨w.heap.size, 0, none⟩) 3 3, .slice (some ⟨w.heap.size + 1, 0, none⟩) 3 3, .slice (some ⟨w.heap.size + 2, 0, none⟩) 3 3] 48)).heap.size = w2.heap.size + 1 := World.size_alloc _ _
  obtain ⟨w3, ew3⟩ : ∃ x, x = w2.alloc (.cells #[.slice (some ⟨w.heap.size, 0, none⟩) 3 3, .slice (some ⟨w.heap.size + 1, 0, none⟩) 3 3, .slice (some ⟨w.heap.size + 2, 0, none⟩) 3 3] 48) := ⟨_, rfl⟩
  rw [← ew3] at b3 hc3 z3
  rw [s2] at b3
  have HO := Lib.hid (show Own3 w3 w.heap.size 3 3 3 (rowZ n 0 false) (rowZ n 1 false) (rowZ n 2 false) from ⟨((b0.on hc1).on hc2).on hc3, (b1.on hc2).on hc3, b2.on hc3, b3⟩)
  have hb3 := ((hb0.trans (hc1.mono hb0.size)).trans (hc2.mono (Nat.le_trans hb0.size hc1.size))).trans (hc3.mono (Nat.le_trans (Nat.le_trans hb0.size hc1.size) hc2.size))
  have EW := Lib.hid (show ((((w.alloc (.cells #[.int .i64 0, .int .i64 0, .int .i64 0] 3)).alloc (.cells #[.int .i64 1, .int .i64 2, .int .i64 3] 3)).alloc (.cells #[.int .i64 255, .int .i64 16, .int .i64 7] 3)).alloc (.cells #[.slice (some ⟨w.heap.size, 0, none⟩) 3 3, .slice (some ⟨w.heap.size + 1, 0, none⟩) 3 3, .slice (some ⟨w.heap.size + 1 + 1, 0, none⟩) 3 3] 48)) = w3 from by rw [ew3, ew2, ew1, ew0])
  clear b0 b1 b2 b3 hb0 hc1 hc2 hc3 e0 e1 e2 e3 ew0 ew1 ew2 ew3 z0 z1 z2 z3 s1 s2
  have hk0 : (0 : Int) ≤ n := by omega
  have hk3 : (n : Int) ≤ 3 := by omega
  go_enter Tryd.func25, Tryd.ntmps25
  go_wp2_with fail
  rw [EW.out, show w.heap.size + 1 + 1 + 1 = w.heap.size + 3 from rfl]
  clear EW
  go_loopw [12] (fun i wr => ∃ k : Nat, k ≤ 3 ∧ i = .int .i64 k ∧ Own3 wr w.heap.size (if 0 < k then n else 3) (if 1 < k then n else 3) (if 2 < k then n else 3) (rowZ n 0 false) (rowZ n 1 false) (rowZ n 2 false) ∧ Below w.heap.size w wr) (fun i _ => 3 - (intOf i).toNat)
  case atStart => exact ⟨0, by omega, rfl, HO.out, hb3⟩
  case round =>
    clear HO hb3
    obtain ⟨k, hk, rfl, ho, hb⟩ := hrel
    have hc : k = 0 ∨ k = 1 ∨ k = 2 ∨ k = 3 := by omega
    rcases hc with rfl | rfl | rfl | rfl
    · have d' : wr.cell? ⟨w.heap.size + 3, 0, none⟩ = some (.slice (some ⟨w.heap.size, 0, none⟩) 3 3) := ho.o.cell 0
      have f' := ho.o.free 0
      have HF := Lib.hid (show Own3 (wr.setCell ⟨w.heap.size + 3, 0, none⟩ (.slice (some ⟨w.heap.size, 0, none⟩) n 3)) w.heap.size n 3 3 (rowZ n 0 false) (rowZ n 1 false) (rowZ n 2 false) from ⟨ho.r0.other (by omega) _ _, ho.r1.other (by omega) _ _, ho.r2.other (by omega) _ _, ho.o.set 0 _⟩)
      have hb2 := hb.setCell (p := ⟨w.heap.size + 3, 0, none⟩) (by show _ ≤ w.heap.size + 3; omega) (.slice (some ⟨w.heap.size, 0, none⟩) n 3)
      clear ho
      go_wp2_with fail
      go_roundw
      case rel => exact ⟨1, by omega, by go_num, HF.out, hb2⟩
      case measure => simp only [intOf]; omega
    · have d' : wr.cell? ⟨w.heap.size + 3, 1, none⟩ = some (.slice (some ⟨w.heap.size + 1, 0, none⟩) 3 3) := ho.o.cell 1
      have f' := ho.o.free 1
      have HF := Lib.hid (show Own3 (wr.setCell ⟨w.heap.size + 3, 1, none⟩ (.slice (some ⟨w.heap.size + 1, 0, none⟩) n 3)) w.heap.size n n 3 (rowZ n 0 false) (rowZ n 1 false) (rowZ n 2 false) from ⟨ho.r0.other (by omega) _ _, ho.r1.other (by omega) _ _, ho.r2.other (by omega) _ _, ho.o.set 1 _⟩)
      have hb2 := hb.setCell (p := ⟨w.heap.size + 3, 1, none⟩) (by show _ ≤ w.heap.size + 3; omega) (.slice (some ⟨w.heap.size + 1, 0, none⟩) n 3)
      clear ho
      go_wp2_with fail
      go_roundw
      case rel => exact ⟨2, by omega, by go_num, HF.out, hb2⟩
      case measure => simp only [intOf]; omega
    · have d' : wr.cell? ⟨w.heap.size + 3, 2, none⟩ = some (.slice (some ⟨w.heap.size + 2, 0, none⟩) 3 3) := ho.o.cell 2
      have f' := ho.o.free 2
      have HF := Lib.hid (show Own3 (wr.setCell ⟨w.heap.size + 3, 2, none⟩ (.slice (some ⟨w.heap.size + 2, 0, none⟩) n 3)) w.heap.size n n n (rowZ n 0 false) (rowZ n 1 false) (rowZ n 2 false) from ⟨ho.r0.other (by omega) _ _, ho.r1.other (by omega) _ _, ho.r2.other (by omega) _ _, ho.o.set 2 _⟩)
      have hb2 := hb.setCell (p := ⟨w.heap.size + 3, 2, none⟩) (by show _ ≤ w.heap.size + 3; omega) (.slice (some ⟨w.heap.size + 2, 0, none⟩) n 3)
      clear ho
      go_wp2_with fail
      go_roundw
      case rel => exact ⟨3, by omega, by go_num, HF.out, hb2⟩
      case measure => simp only [intOf]; omega
    · have HF := Lib.hid (show Own3 wr w.heap.size n n n (rowZ n 0 false) (rowZ n 1 false) (rowZ n 2 false) from ho)
      clear ho
      go_wp2_with fail
      go_ret
      exact ⟨rfl, HF.out, hb⟩
set_option maxHeartbeats 4000000 in
theorem implNumbersFor_any (u : Un) (hn : bulkUn u ≤ 1048576) (v : Value) (w : World) (hV : UnV w (Lt w.heap.size) u v) (hv : ∃ A, v = .agg #[.slice A u.codes.length u.codes.length]) (T : InsT w) (J : JmpT w) :
    Calls Tryd.prog 9 #[v] w fun e w' => (∃ v', e = .returned v' ∧ GS w' w.heap.size (numM u) (numN u) v' false) ∧ Below w.heap.size w w' := by
  have UV := fun W (h : Below w.heap.size w W) => implUnitValid_any u hn v W (hV.on h h.size) hv (T.below h) (J.below h)
  obtain ⟨A', cap', e', hR⟩ := hV
  obtain ⟨A, rfl⟩ := hv
  obtain ⟨rfl, rfl⟩ : A = A' ∧ u.codes.length = cap' := by
    injection e' with e'
    simp at e'
    exact e'
  clear e'
  have hln : u.codes.length ≤ 1048576 := by have := length_le_bulkR bulkCd u.codes; unfold bulkUn at hn; omega
  have HNA := Lib.hid (fun h => numN_at (u := u) h)
  have HM := Lib.hid (show numM u = if unB u = true then 3 else 0 from rfl)
  have hb0 : Below w.heap.size w (w.alloc (.cells #[.slice A u.codes.length u.codes.length] 30)) := (Below.refl _ _).alloc (Nat.le_refl _) _
  have K0 := Lib.hid (Bz.new w 30 [.slice A u.codes.length u.codes.length])
  have k0 := show (w.alloc (.cells #[.slice A u.codes.length u.codes.length] 30)).cell? ⟨w.heap.size, 0, none⟩ = some (.slice A u.codes.length u.codes.length) from (K0.out.cell 0).trans rfl
  have UV1 := UV _ hb0
  clear UV
  have HR := Lib.hid hR
  clear hR T J hn
  unfold BoolB at UV1
  have hz : ∃ z, unB u = z := ⟨_, rfl⟩
  obtain ⟨z, hz⟩ := hz
  rw [hz] at UV1
  replace UV1 := Lib.hid UV1
  cases z
  · have HW := Lib.hid (show numM u = 0 by rw [HM.out, hz]; rfl)
    clear hz K0 HR HNA HM
    go_enter Tryd.func9, Tryd.ntmps9
    go_wp2_with fail
    (with_reducible refine Calls.mono UV1.out ?_)
    rintro ee w1 ⟨rfl, hb1⟩
    have hb2 := hb0.trans (hb1.mono hb0.size)
    go_wp2_with fail
    go_ret
    exact ⟨⟨_, rfl, .inl ⟨HW.out, rfl⟩⟩, hb2⟩
  have HW := Lib.hid (show numM u = 3 by rw [HM.out, hz]; rfl)
  obtain ⟨L, hL, hp, hn3⟩ := HNA.out hz
  have HL := Lib.hid hL
  have HP := Lib.hid (show ∀ h : L < u.codes.length, (u.codes[L]'h).params = (numN u : Int) from fun _ => hp)
  have K0' := Lib.hid (show Bz (w.alloc (.cells #[.slice A u.codes.length u.codes.length] 30)) w.heap.size 30 [.slice A u.codes.length u.codes.length] from K0.out)
  clear hz HNA HM K0 hp hL
  go_enter Tryd.func9, Tryd.ntmps9
  go_wp2_with fail
  generalize w.alloc (.cells #[.slice A u.codes.length u.codes.length] 30) = w0 at *
  (with_reducible refine Calls.mono UV1.out ?_)
  rintro ee w1 ⟨rfl, hb1⟩
  have hb2 := hb0.trans (hb1.mono hb0.size)
  have K1 := K0'.out.on hb1
  have k1 := show w1.cell? ⟨w.heap.size, 0, none⟩ = some (.slice A u.codes.length u.codes.length) from (K1.cell 0).trans rfl
  obtain ⟨bb, oo, hA, hB, d0, hrest⟩ := (HR.out.on hb2 hb2.size).at_ (i := L) (by have := HL.out; omega)
  clear hrest
  rw [HP.out _] at d0
  rw [hA, HL.out] at k1
  obtain ⟨n, en⟩ : ∃ n, n = numN u := ⟨_, rfl⟩
  rw [← en] at d0 hn3
  have EN := Lib.hid en
  clear en
  have SI := Lib.hid (someInputs_any n hn3 w1)
  have hLs : L ≤ 1048576 := by have := HL.out; omega
  have hx0 : (0 : Int) ≤ (L : Nat) := by omega
  have hsz := hb2.size
  clear K1 K0' UV1 hb1 k0 HP hA hln
  have hl2 := HL.out
  rw [hl2]
  clear hl2 HL
  go_wp2_with fail
  (with_reducible refine Calls.mono SI.out ?_)
  rintro ee w2 ⟨rfl, ho, hb3⟩
  have HO := Lib.hid ho
  have hb4 := hb2.trans (hb3.mono hb2.size)
  clear ho
  go_wp2_with fail
  go_ret
  exact ⟨⟨_, rfl, .inr ⟨HW.out, _, hsz, rfl, by rw [← EN.out]; exact HO.out⟩⟩, hb4⟩
end Go.Proofs.YtomhomnibikceaaDoor
