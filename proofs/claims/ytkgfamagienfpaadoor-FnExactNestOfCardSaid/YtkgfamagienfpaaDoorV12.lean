/-
  ProgramValid, StmtCount and NestOf of the program.
-/
import Derived.Test.YtkgfamagienfpaaDoorV11
namespace Go.Proofs.YtkgfamagienfpaaDoor
open Go.RowKit
set_option maxRecDepth 100000

set_option maxHeartbeats 2000000 in
theorem implProgramValid_any (p : List Fu) (hbk : bulkFL p ≤ 1048576) (v : Value) (w : World) (hV : PrV w (Lt w.heap.size) p v) (T : Tabs w) (G : Sgn w) (F : Fms w) :
    Calls Tryd.prog 18 #[v] w (BoolB (progB p) w) := by
  have CS := fun W (h : Below w.heap.size w W) => Lib.hid (surveyOf_any p hbk v W (hV.on h h.size) (T.below h) (G.below h) (F.below h))
  unfold SurveyRet at CS
  obtain ⟨A, c, rfl, _⟩ := hV
  obtain ⟨_, hlt, hb⟩ := box1 w (.slice A p.length c) 42
  have hbs := hb.size
  have CS1 := Lib.hid (CS _ hb).out
  clear CS T G F
  generalize progB p = res at *
  go_enter Tryd.func18, Tryd.ntmps18
  go_wp2_with fail
  (with_reducible refine Calls.mono CS1.out ?_)
  rintro ee w2 ⟨⟨c, d, rfl, _⟩, hb2⟩
  have hb3 := (hb.trans (hb2.mono hbs)).alloc (Nat.le_trans hbs hb2.size) (.cells #[.int .i64 40, .int .i64 (c : Int), .int .i64 (d : Int)] 66)
  go_wp2_with fail
  go_ret
  exact ⟨rfl, hb3⟩
set_option maxHeartbeats 2000000 in
theorem implStmtCount_any (p : List Fu) (hbk : bulkFL p ≤ 1048576) (v : Value) (w : World) (hV : PrV w (Lt w.heap.size) p v) (T : Tabs w) (G : Sgn w) (F : Fms w) :
    Calls Tryd.prog 21 #[v] w (IntB (stmtCountI p (progB p)) w) := by
  have CS := fun W (h : Below w.heap.size w W) => Lib.hid (surveyOf_any p hbk v W (hV.on h h.size) (T.below h) (G.below h) (F.below h))
  unfold SurveyRet at CS
  obtain ⟨A, c, rfl, _⟩ := hV
  obtain ⟨_, hlt, hb⟩ := box1 w (.slice A p.length c) 42
  have hbs := hb.size
  have CS1 := (CS _ hb).out
  clear CS T G F
  generalize progB p = res at *
  cases res
  · replace CS1 := Lib.hid CS1
    go_enter Tryd.func21, Tryd.ntmps21
    go_wp2_with fail
    (with_reducible refine Calls.mono CS1.out ?_)
    rintro ee w2 ⟨⟨c, d, rfl, _⟩, hb2⟩
    have hb3 := (hb.trans (hb2.mono hbs)).alloc (Nat.le_trans hbs hb2.size) (.cells #[.int .i64 40, .int .i64 (c : Int), .int .i64 (d : Int)] 66)
    go_wp2_with fail
    go_ret
    exact ⟨rfl, hb3⟩
  · replace CS1 := Lib.hid CS1
    go_enter Tryd.func21, Tryd.ntmps21
    go_wp2_with fail
    (with_reducible refine Calls.mono CS1.out ?_)
    rintro ee w2 ⟨⟨c, d, rfl, hcd⟩, hb2⟩
    have HCD := Lib.hid (hcd (by first | rfl | trivial))
    clear hcd
    have hb3 := (hb.trans (hb2.mono hbs)).alloc (Nat.le_trans hbs hb2.size) (.cells #[.int .i64 40, .int .i64 (c : Int), .int .i64 (d : Int)] 66)
    go_wp2_with fail
    go_ret
    exact ⟨ret_int' (by rw [HCD.out.1]; rfl), hb3⟩
set_option maxHeartbeats 2000000 in
theorem implNestOf_any (p : List Fu) (hbk : bulkFL p ≤ 1048576) (v : Value) (w : World) (hV : PrV w (Lt w.heap.size) p v) (T : Tabs w) (G : Sgn w) (F : Fms w) :
    Calls Tryd.prog 23 #[v] w (IntB (nestI p (progB p)) w) := by
  have CS := fun W (h : Below w.heap.size w W) => Lib.hid (surveyOf_any p hbk v W (hV.on h h.size) (T.below h) (G.below h) (F.below h))
  unfold SurveyRet at CS
  obtain ⟨A, c, rfl, _⟩ := hV
  obtain ⟨_, hlt, hb⟩ := box1 w (.slice A p.length c) 42
  have hbs := hb.size
  have CS1 := (CS _ hb).out
  clear CS T G F
  generalize progB p = res at *
  cases res
  · replace CS1 := Lib.hid CS1
    go_enter Tryd.func23, Tryd.ntmps23
    go_wp2_with fail
    (with_reducible refine Calls.mono CS1.out ?_)
    rintro ee w2 ⟨⟨c, d, rfl, _⟩, hb2⟩
    have hb3 := (hb.trans (hb2.mono hbs)).alloc (Nat.le_trans hbs hb2.size) (.cells #[.int .i64 40, .int .i64 (c : Int), .int .i64 (d : Int)] 66)
    go_wp2_with fail
    go_ret
    exact ⟨rfl, hb3⟩
  · replace CS1 := Lib.hid CS1
    go_enter Tryd.func23, Tryd.ntmps23
    go_wp2_with fail
    (with_reducible refine Calls.mono CS1.out ?_)
    rintro ee w2 ⟨⟨c, d, rfl, hcd⟩, hb2⟩
    have HCD := Lib.hid (hcd (by first | rfl | trivial))
    clear hcd
    have hb3 := (hb.trans (hb2.mono hbs)).alloc (Nat.le_trans hbs hb2.size) (.cells #[.int .i64 40, .int .i64 (c : Int), .int .i64 (d : Int)] 66)
    go_wp2_with fail
    go_ret
    exact ⟨ret_int' (by rw [HCD.out.2]; rfl), hb3⟩
end Go.Proofs.YtkgfamagienfpaaDoor
