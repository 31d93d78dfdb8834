/-
  Drawing: expressions without Kids.
-/
import Derived.Test.YtoepehlndljkoaaDoorDrawT
import Derived.Test.YtoepehlndljkoaaDoorG3
namespace Go.Proofs.YtoepehlndljkoaaDoor
open Go.RowKit
set_option maxRecDepth 100000

/-- What drawing an expression without Kids leaves. -/
def LeafRet (R p : Nat) (w : World) (ee : Ending) (w' : World) : Prop := ∃ (op n : Int) (s : ByteArray), s.size ≤ 8 ∧ ee = .returned (.agg #[.int .i64 op, .int .i64 n, .string s, .slice none 0 0]) ∧ DrewT R p w w'
/-- A block of four cells behind the reader, which is the call's own. -/
structure Res (w : World) (b : Nat) (v0 v1 v2 v3 : Value) : Prop where
  c : Bx4 w b v0 v1 v2 v3
  f : ∀ o, w.frozen? ⟨b, o, none⟩ = false
  lt : b < w.heap.size
theorem Res.touch {w w' : World} {R b : Nat} {v0 v1 v2 v3 : Value} (h : Res w b v0 v1 v2 v3) (ht : Touch R w w') (hR : R < b) : Res w' b v0 v1 v2 v3 :=
  ⟨⟨(ht.cell hR h.lt).trans h.c.1, (ht.cell hR h.lt).trans h.c.2.1, (ht.cell hR h.lt).trans h.c.2.2.1, (ht.cell hR h.lt).trans h.c.2.2.2⟩, fun o => (ht.frozen hR h.lt).trans (h.f o), Nat.lt_of_lt_of_le h.lt ht.below.size⟩
theorem Res.new (w : World) (v0 v1 v2 v3 : Value) (t : TypeId) : Res (w.alloc (.cells #[v0, v1, v2, v3] t)) w.heap.size v0 v1 v2 v3 :=
  ⟨Bx4.new w _ _ _ _ t, fun o => alloc_frozen w _ t o, by rw [World.size_alloc]; omega⟩
set_option maxHeartbeats 2000000 in
theorem leaf_names (R p b o cap : Nat) (ss : List ByteArray) (w : World) (h : Rd w R p) (hp : p ≤ 900000) (hn1 : 1 ≤ ss.length) (hn2 : ss.length ≤ 1000) (hs : ∀ s ∈ ss, s.size ≤ 8) (hN : NmS w R b o ss) :
    Calls Tryd.prog 42 #[.pointer (some ⟨R, 0, none⟩), .slice (some ⟨b, o, none⟩) ss.length cap] w (LeafRet R (p + 2) w) := by
  have hlt := h.lt
  have q0 : ((ss.length : Int) == 0) = false := beq_no (by omega)
  have hb0 := (Below.refl w.heap.size w).alloc (Nat.le_refl _) (.cells #[.int .i64 0, .int .i64 0, .string ⟨#[]⟩, .slice none 0 0] 30)
  have D0 := Lib.hid (DrewT.below h hb0)
  have R0 := Lib.hid (Res.new w (.int .i64 0) (.int .i64 0) (.string ⟨#[]⟩) (.slice none 0 0) 30)
  have PK := Lib.hid (pick_t R p 3 _ (h.keep hb0) (by omega) (by omega) (by omega))
  have N0 := Lib.hid (hN.touch (Touch.of_below hb0 hlt))
  have HS := Lib.hid hs
  clear hN hs hb0 h
  go_enter Tryd.func42, Tryd.ntmps42
  go_wp2_with fail
  refine Calls.mono PK.out ?_
  rintro ee w1 ⟨r, hr, rfl, hd1⟩
  have D1 := Lib.hid (D0.out.trans hd1)
  have R1 := Lib.hid (R0.out.touch hd1.2 hlt)
  have N1 := Lib.hid (N0.out.touch hd1.2)
  obtain ⟨p1, hp1, hr1⟩ := hd1.1
  clear hd1 D0 R0 N0 PK q0
  have hl1 := R1.out.lt
  by_cases hz : r = 0
  · subst hz
    have NM := Lib.hid (num_t R p1 [0, 1, 2, 3, 5, 7, 15, 16, 100, 255] w1 3 (0, 0) hr1 (by omega) (by simp) (by simp))
    go_wp2_with fail
    refine Calls.mono NM.out ?_
    rintro ee w2 ⟨z, hz, rfl, hd2⟩
    have D2 := Lib.hid ((D1.out.trans hd2).more (show p1 + 1 ≤ p + 2 by omega))
    have R2 := R1.out.touch hd2.2 hlt
    obtain ⟨c0, c1, c2, c3⟩ := R2.c
    have f0 := R2.f 0
    have f1 := R2.f 1
    have f2 := R2.f 2
    have f3 := R2.f 3
    clear hd2 NM D1 R1 N1 R2 HS
    go_wp2_with fail
    refine bodyPost_ret (v := .agg #[.int .i64 1, .int .i64 z, .string ⟨#[]⟩, .slice none 0 0]) (by simp [results, Tryd.results42, go_sem, c0, c1, c2, c3]) rfl ⟨1, z, ⟨#[]⟩, Nat.zero_le _, rfl, ?_⟩
    exact (((D2.out.set (Nat.le_refl _) hlt 0 _).set (Nat.le_refl _) hlt 1 _).set (Nat.le_refl _) hlt 2 _).set (Nat.le_refl _) hlt 3 _
  · have q1 : ((r : Int) == 0) = false := beq_no (by omega)
    have NM := Lib.hid (of_t R p1 b o cap ss w1 hr1 (by omega) hn1 hn2 N1.out)
    go_wp2_with fail
    refine Calls.mono NM.out ?_
    rintro ee w2 ⟨s, hs, rfl, hd2⟩
    have hs8 := HS.out s hs
    have D2 := Lib.hid ((D1.out.trans hd2).more (show p1 + 1 ≤ p + 2 by omega))
    have R2 := R1.out.touch hd2.2 hlt
    obtain ⟨c0, c1, c2, c3⟩ := R2.c
    have f0 := R2.f 0
    have f1 := R2.f 1
    have f2 := R2.f 2
    have f3 := R2.f 3
    clear hd2 NM D1 R1 N1 R2 HS hs
    go_wp2_with fail
    refine bodyPost_ret (v := .agg #[.int .i64 2, .int .i64 0, .string s, .slice none 0 0]) (by simp [results, Tryd.results42, go_sem, c0, c1, c2, c3]) rfl ⟨2, 0, s, hs8, rfl, ?_⟩
    exact (((D2.out.set (Nat.le_refl _) hlt 0 _).set (Nat.le_refl _) hlt 1 _).set (Nat.le_refl _) hlt 2 _).set (Nat.le_refl _) hlt 3 _
set_option maxHeartbeats 2000000 in
theorem leaf_nil (R p : Nat) (w : World) (h : Rd w R p) (hp : p ≤ 900000) :
    Calls Tryd.prog 42 #[.pointer (some ⟨R, 0, none⟩), .slice none 0 0] w (LeafRet R (p + 2) w) := by
  have hlt := h.lt
  have hb0 := (Below.refl w.heap.size w).alloc (Nat.le_refl _) (.cells #[.int .i64 0, .int .i64 0, .string ⟨#[]⟩, .slice none 0 0] 30)
  have D0 := Lib.hid (DrewT.below h hb0)
  have R0 := Lib.hid (Res.new w (.int .i64 0) (.int .i64 0) (.string ⟨#[]⟩) (.slice none 0 0) 30)
  have NM := Lib.hid (num_t R p [0, 1, 2, 3, 5, 7, 15, 16, 100, 255] _ 3 (0, 0) (h.keep hb0) (by omega) (by simp) (by simp))
  clear hb0 h
  go_enter Tryd.func42, Tryd.ntmps42
  go_wp2_with fail
  rw [World.size_alloc] at NM
  refine Calls.mono NM.out ?_
  rintro ee w2 ⟨z, hz, rfl, hd2⟩
  have D2 := Lib.hid ((D0.out.trans hd2).more (show p + 1 ≤ p + 2 by omega))
  have R2 := R0.out.touch hd2.2 hlt
  obtain ⟨c0, c1, c2, c3⟩ := R2.c
  have f0 := R2.f 0
  have f1 := R2.f 1
  have f2 := R2.f 2
  have f3 := R2.f 3
  clear hd2 NM D0 R0 R2
  go_wp2_with fail
  refine bodyPost_ret (v := .agg #[.int .i64 1, .int .i64 z, .string ⟨#[]⟩, .slice none 0 0]) (by simp [results, Tryd.results42, go_sem, c0, c1, c2, c3]) rfl ⟨1, z, ⟨#[]⟩, Nat.zero_le _, rfl, ?_⟩
  exact (((D2.out.set (Nat.le_refl _) hlt 0 _).set (Nat.le_refl _) hlt 1 _).set (Nat.le_refl _) hlt 2 _).set (Nat.le_refl _) hlt 3 _
end Go.Proofs.YtoepehlndljkoaaDoor
