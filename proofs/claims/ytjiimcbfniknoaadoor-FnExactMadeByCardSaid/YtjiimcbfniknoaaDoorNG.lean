/-
  MadeBy: the model's and the program's.
-/
import Derived.Test.YtjiimcbfniknoaaDoorNF
namespace Go.Proofs.YtjiimcbfniknoaaDoor
open Go.RowKit
set_option maxRecDepth 100000

def madeI (x : Ik) : Int := if iMakes x.op then x.to else -1
set_option maxHeartbeats 1000000 in
theorem specMadeBy_any (x : Ik) (_ : bulkIk x ≤ 1048576) (v : Value) (w : World) (hV : IkV w (Lt w.heap.size) x v) : Calls Tryd.prog 9 #[v] w (IntB (madeI x) w) := by
  obtain ⟨A, c, rfl, _⟩ := hV
  obtain ⟨op, to, args, n⟩ := x
  dsimp only
  have CM := fun w => Lib.hid (l7Makes_any op w)
  have hb : Below w.heap.size w (w.alloc (.cells #[.int .i64 op, .int .i64 to, .slice A args.length c, .int .i64 n] 27)) := (Below.refl _ _).alloc (Nat.le_refl _) _
  cases hm : iMakes op
  · have HV := Lib.hid (show madeI ⟨op, to, args, n⟩ = -1 by unfold madeI; rw [hm]; rfl)
    rw [hm] at CM
    clear hm
    go_enter Tryd.func9, Tryd.ntmps9
    go_wp2_with (go_at_call 27; (with_reducible refine Calls.mono (CM _).out ?_); rintro ee w1 ⟨rfl, rfl⟩)
    go_ret
    exact ⟨ret_int' HV.out.symm, hb⟩
  · have HV := Lib.hid (show madeI ⟨op, to, args, n⟩ = to by unfold madeI; rw [hm]; rfl)
    rw [hm] at CM
    clear hm
    go_enter Tryd.func9, Tryd.ntmps9
    go_wp2_with (go_at_call 27; (with_reducible refine Calls.mono (CM _).out ?_); rintro ee w1 ⟨rfl, rfl⟩)
    go_ret
    exact ⟨ret_int' HV.out.symm, hb⟩
set_option maxHeartbeats 1000000 in
theorem implMadeBy_any (x : Ik) (_ : bulkIk x ≤ 1048576) (v : Value) (w : World) (hV : IkV w (Lt w.heap.size) x v) (T : InsT w) : Calls Tryd.prog 11 #[v] w (IntB (madeI x) w) := by
  obtain ⟨A, c, rfl, _⟩ := hV
  obtain ⟨op, to, args, n⟩ := x
  dsimp only
  have hb : Below w.heap.size w (w.alloc (.cells #[.int .i64 op, .int .i64 to, .slice A args.length c, .int .i64 n] 27)) := (Below.refl _ _).alloc (Nat.le_refl _) _
  have hlt : w.heap.size < (w.alloc (.cells #[.int .i64 op, .int .i64 to, .slice A args.length c, .int .i64 n] 27)).heap.size := by rw [World.size_alloc]; omega
  have K0 := Lib.hid (BoxV.new w [.int .i64 op, .int .i64 to, .slice A args.length c, .int .i64 n] 27)
  have CF := insForm_any op _ (T.below hb)
  unfold insV at CF
  clear T
  generalize iName op = nm at *
  generalize iTells op = tl at *
  generalize iArgs op = ar at *
  cases hm : iMakes op
  · have HV := Lib.hid (show madeI ⟨op, to, args, n⟩ = -1 by unfold madeI; rw [hm]; rfl)
    rw [hm] at CF
    replace CF := Lib.hid CF
    clear hm
    go_enter Tryd.func11, Tryd.ntmps11
    go_wp2_with (go_at_call 29; (with_reducible refine Calls.mono CF.out ?_); rintro ee w1 ⟨rfl, hb1⟩; have q1 := insField1 nm false tl ar w1)

    go_ret
    exact ⟨ret_int' HV.out.symm, hb.trans (hb1.mono (Nat.le_of_lt hlt))⟩
  · have HV := Lib.hid (show madeI ⟨op, to, args, n⟩ = to by unfold madeI; rw [hm]; rfl)
    rw [hm] at CF
    replace CF := Lib.hid CF
    clear hm
    go_enter Tryd.func11, Tryd.ntmps11
    go_wp2_with (go_at_call 29; (with_reducible refine Calls.mono CF.out ?_); rintro ee w1 ⟨rfl, hb1⟩; have q1 := insField1 nm true tl ar w1; have k1 := K0.out.below hb1 hlt 1 _ rfl)
    go_ret
    exact ⟨ret_int' HV.out.symm, hb.trans (hb1.mono (Nat.le_of_lt hlt))⟩
end Go.Proofs.YtjiimcbfniknoaaDoor
