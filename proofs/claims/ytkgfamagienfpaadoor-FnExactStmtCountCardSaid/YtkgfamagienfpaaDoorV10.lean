/-
  StmtValid of the program; what stands ahead of a function's Body.
-/
import Derived.Test.YtkgfamagienfpaaDoorV9
import Derived.Test.YtkgfamagienfpaaDoorP2
namespace Go.Proofs.YtkgfamagienfpaaDoor
open Go.RowKit
set_option maxRecDepth 100000

theorem all_one {p : St → Bool} (t : St) : [t].all p = p t := by simp
theorem SurvAt.new (w : World) (m c d : Nat) : SurvAt (w.alloc (.cells #[.int .i64 (m : Int), .int .i64 (c : Int), .int .i64 (d : Int)] 66)) w.heap.size m c d := by
  unfold SurvAt
  show (w.heap.push _)[w.heap.size]? = _
  simp
/-- The three blocks of StmtValid. -/
theorem valid_blocks (t : St) (w : World) (A1 : Option Addr) (p1 : Nat) (A2 : Option Addr) (p2 : Nat) (A3 : Option Addr) (p3 : Nat) (o : Obj) (r1 : PdS w (Lt w.heap.size) t.args A1) (r2 : StS w (Lt w.heap.size) t.body A2) (r3 : StS w (Lt w.heap.size) t.els A3) (e : TypeId) :
    ∃ W : World, W = ((w.alloc o).alloc (.cells #[.int .i64 9223372036854775807, .int .i64 0, .int .i64 0] 66)).alloc (.cells #[.int .i64 t.op, .string t.name, .slice A1 t.args.length p1, .slice A2 t.body.length p2, .slice A3 t.els.length p3] e) ∧
      SurvAt W (w.heap.size + 1) 9223372036854775807 0 0 ∧ Below w.heap.size w W ∧ StS W (Ne (w.heap.size + 1) W.heap.size) [t] (some ⟨w.heap.size + 1 + 1, 0, none⟩) := by
  refine ⟨_, rfl, ?_⟩
  have s1 : (w.alloc o).heap.size = w.heap.size + 1 := World.size_alloc _ _
  have S := SurvAt.new (w.alloc o) 9223372036854775807 0 0
  rw [s1] at S
  have e0 : (w.alloc o).alloc (.cells #[.int .i64 ((9223372036854775807 : Nat) : Int), .int .i64 ((0 : Nat) : Int), .int .i64 ((0 : Nat) : Int)] 66) = (w.alloc o).alloc (.cells #[.int .i64 9223372036854775807, .int .i64 0, .int .i64 0] 66) := rfl
  rw [e0] at S
  clear e0
  have s2 : ((w.alloc o).alloc (.cells #[.int .i64 9223372036854775807, .int .i64 0, .int .i64 0] 66)).heap.size = w.heap.size + 1 + 1 := by rw [World.size_alloc, s1]
  have hb2 := two_boxes w o (.cells #[.int .i64 9223372036854775807, .int .i64 0, .int .i64 0] 66)
  generalize (w.alloc o).alloc (.cells #[.int .i64 9223372036854775807, .int .i64 0, .int .i64 0] 66) = w2 at *
  have hal := (Below.refl w2.heap.size w2).alloc (Nat.le_refl _) (.cells #[.int .i64 t.op, .string t.name, .slice A1 t.args.length p1, .slice A2 t.body.length p2, .slice A3 t.els.length p3] e)
  have B := BxL.new w2 [.int .i64 t.op, .string t.name, .slice A1 t.args.length p1, .slice A2 t.body.length p2, .slice A3 t.els.length p3] e
  rw [s2] at B
  have hb := hb2.trans (hal.mono hb2.size)
  have hlt : w.heap.size + 1 + 1 < (w2.alloc (.cells #[.int .i64 t.op, .string t.name, .slice A1 t.args.length p1, .slice A2 t.body.length p2, .slice A3 t.els.length p3] e)).heap.size := by rw [World.size_alloc, s2]; omega
  refine ⟨S.below hal, hb, .inr ⟨_, _, rfl, ⟨by omega, hlt⟩, ?_⟩⟩
  have hc := lt_keep hb
  have hq : ∀ b, Lt w.heap.size b → Ne (w.heap.size + 1) (w2.alloc (.cells #[.int .i64 t.op, .string t.name, .slice A1 t.args.length p1, .slice A2 t.body.length p2, .slice A3 t.els.length p3] e)).heap.size b := fun b (h : b < w.heap.size) => ⟨by omega, by omega⟩
  refine StC.mk fun i hi => ?_
  have hi0 : i = 0 := by simpa using hi
  subst hi0
  exact ⟨⟨B 0 _ rfl, B 1 _ rfl⟩, ⟨A1, p1, B 2 _ rfl, r1.keep hc hq⟩, ⟨A2, p2, B 3 _ rfl, r2.keep hc hq⟩, A3, p3, B 4 _ rfl, r3.keep hc hq⟩
set_option maxHeartbeats 2000000 in
theorem implStmtValid_any (t : St) (hl : bulkT t ≤ 1048576) (v : Value) (w : World) (hV : StV w (Lt w.heap.size) t v) (T : Tabs w) (G : Sgn w) (F : Fms w) :
    Calls Tryd.prog 13 #[v] w (BoolB (formT 4 t) w) := by
  have hsz := sizeT_bulk t
  obtain ⟨A1, p1, A2, p2, A3, p3, rfl, r1, r2, r3⟩ := hV
  obtain ⟨W, hW, hS, hb, hR⟩ := valid_blocks t w A1 p1 A2 p2 A3 p3 (.cells #[.int .i64 t.op, .string t.name, .slice A1 t.args.length p1, .slice A2 t.body.length p2, .slice A3 t.els.length p3] 31) r1 r2 r3 31
  have h1 : sizeTL [t] = sizeT t := rfl
  have h2 : bulkTL [t] = 1 + bulkT t := rfl
  by_cases hbk : bulkTL [t] ≤ 1048577
  · have CS := survOk_any 4 (Nat.le_refl _) [t] (w.heap.size + 1) 9223372036854775807 0 0 (some ⟨w.heap.size + 1 + 1, 0, none⟩) 1 W hS ⟨w, T, G, F, Nat.le_succ _, hb⟩ hR hbk (by omega) (by omega) (by omega) (Nat.le_refl _)
    rw [show (5 - ((4 : Nat) : Int)) = 1 from rfl, all_one, decide_eq_true (p := 0 + sizeTL [t] ≤ 9223372036854775807) (by omega), Bool.and_true] at CS
    have CS := Lib.hid CS
    rw [hW] at CS hb
    clear hW hS hR T G F r1 r2 r3 h1 h2 hsz hl hbk
    generalize formT 4 t = res at *
    go_enter Tryd.func13, Tryd.ntmps13
    go_wp2_with fail
    refine Calls.mono CS.out ?_
    rintro ee w4 ⟨rfl, t4, _⟩
    have hb4 := hb.trans (t4.below.mono (Nat.le_succ _))
    go_wp2_with fail
    go_ret
    exact ⟨rfl, hb4⟩
  · omega
set_option maxHeartbeats 2000000 in
theorem headFits_any (f : Fu) (hbk : bulkF f ≤ 1048576) (v : Value) (w : World) (hV : FuV w (Lt w.heap.size) f v) (T : Tabs w) :
    Calls Tryd.prog 63 #[v] w (BoolB (headF f) w) := by
  obtain ⟨A1, p1, A2, p2, rfl, r1, _⟩ := hV
  have HF := Lib.hid (show headF f = (nameB f.name && (decide (f.params.length ≤ 3) && f.params.all nameB)) from rfl)
  generalize headF f = res at *
  unfold bulkF at hbk
  obtain ⟨s, a, bd⟩ := f
  dsimp only at *
  have hla := length_le_bulkS a
  have c0 := alloc_cell w #[.string s, .slice A1 a.length p1, .slice A2 bd.length p2] 51 (0, 0) 0
  have c1 := alloc_cell w #[.string s, .slice A1 a.length p1, .slice A2 bd.length p2] 51 (0, 0) 1
  have hlt : w.heap.size < (w.alloc (.cells #[.string s, .slice A1 a.length p1, .slice A2 bd.length p2] 51)).heap.size := by rw [World.size_alloc]; omega
  have hb : Below w.heap.size w (w.alloc (.cells #[.string s, .slice A1 a.length p1, .slice A2 bd.length p2] 51)) := (Below.refl _ _).alloc (Nat.le_refl _) _
  have R1 := fun W h => Lib.hid (r1.on (w' := W) (B' := W.heap.size) h h.size)
  have TT := fun W h => Lib.hid (T.below (w' := W) h)
  have hn : a.length ≤ 1048576 := by omega
  clear r1 hbk hla T
  replace c0 : (w.alloc (.cells #[.string s, .slice A1 a.length p1, .slice A2 bd.length p2] 51)).cell? ⟨w.heap.size, 0, none⟩ = some (.string s) := c0
  replace c1 : (w.alloc (.cells #[.string s, .slice A1 a.length p1, .slice A2 bd.length p2] 51)).cell? ⟨w.heap.size, 1, none⟩ = some (.slice A1 a.length p1) := c1
  go_enter Tryd.func63, Tryd.ntmps63
  go_upto_region 1 with (fail)
  generalize w.alloc (.cells #[.string s, .slice A1 a.length p1, .slice A2 bd.length p2] 51) = wa at *
  have CN := implIsName_any s wa (TT _ hb).out
  cases h1 : nameB s
  · rw [h1] at CN
    have HN := Lib.hid (show res = false by rw [HF.out, h1]; rfl)
    clear h1 R1 TT
    replace CN := Lib.hid CN
    go_wp2_with ((go_at_call 78; (with_reducible refine Calls.mono CN.out ?_); rintro ee w2 ⟨rfl, rfl⟩))
    go_ret
    exact ⟨by rw [HN.out]; rfl, hb⟩
  rw [h1] at CN
  have H1 := Lib.hid h1
  clear h1
  replace CN := Lib.hid CN
  by_cases h3 : (3 : Int) < (a.length : Int)
  · have HN := Lib.hid (show res = false by rw [HF.out, H1.out, decide_eq_false (p := a.length ≤ 3) (by omega)]; rfl)
    clear R1 TT
    go_wp2_with ((go_at_call 78; (with_reducible refine Calls.mono CN.out ?_); rintro ee w2 ⟨rfl, rfl⟩))
    go_ret
    exact ⟨by rw [HN.out]; rfl, hb⟩
  have HQ := Lib.hid (show res = a.all nameB by rw [HF.out, H1.out, decide_eq_true (p := a.length ≤ 3) (by omega)]; rfl)
  go_wp2_with ((go_at_call 78; (with_reducible refine Calls.mono CN.out ?_); rintro ee w2 ⟨rfl, rfl⟩))
  clear CN c0 c1
  go_loopw [18] (fun i wr => ∃ k : Nat, k ≤ a.length ∧ i = .int .i64 k ∧ allTo nameB a k ∧ wr = wa) (fun i _ => a.length - (intOf i).toNat)
  case atStart => exact ⟨0, Nat.zero_le _, rfl, allTo_zero _ _, rfl⟩
  case round =>
    obtain ⟨k, hk, rfl, hall, rfl⟩ := hrel
    have HKT := Lib.hid hall
    clear hall
    by_cases hlk : k < a.length
    · obtain ⟨b, o, rfl, hB, d0⟩ := (R1 _ hb).out.at_ hlk
      have CN := implIsName_any a[k] _ (TT _ hb).out
      clear R1 TT
      generalize hkd : a[k] = kid at *
      have HKD := Lib.hid hkd
      clear hkd
      cases hv : nameB kid
      · rw [hv] at CN
        have HN := Lib.hid (show res = false by rw [HQ.out, all_bad (p := nameB) hlk (by rw [HKD.out]; exact hv)])
        clear hv
        replace CN := Lib.hid CN
        go_wp2_with ((go_at_call 78; (with_reducible refine Calls.mono CN.out ?_); rintro ee w2 ⟨rfl, rfl⟩))
        go_ret
        exact ⟨by rw [HN.out]; rfl, hb⟩
      · rw [hv] at CN
        have HN := Lib.hid (allTo_succ HKT.out hlk (by rw [HKD.out]; exact hv))
        clear hv
        replace CN := Lib.hid CN
        go_wp2_with ((go_at_call 78; (with_reducible refine Calls.mono CN.out ?_); rintro ee w2 ⟨rfl, rfl⟩))
        go_roundw
        case rel => exact ⟨k + 1, by omega, by go_num, HN.out, by first | rfl | trivial⟩
        case measure => simp only [intOf]; omega
    · obtain rfl : k = a.length := by omega
      have HN := Lib.hid (show res = true by rw [HQ.out, all_of HKT.out])
      go_wp2_with fail
      go_ret
      exact ⟨by rw [HN.out]; rfl, hb⟩
end Go.Proofs.YtkgfamagienfpaaDoor
