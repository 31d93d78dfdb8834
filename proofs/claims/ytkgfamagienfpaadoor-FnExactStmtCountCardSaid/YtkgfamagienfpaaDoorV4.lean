/-
  ProgramValid, StmtCount and NestOf of the model.
-/
import Derived.Test.YtkgfamagienfpaaDoorV3
namespace Go.Proofs.YtkgfamagienfpaaDoor
open Go.RowKit
set_option maxRecDepth 100000

theorem progB_ask (p : List Fu) : progB p = (inB 1 (p.length : Int) 4 && (p.all fnB && decide (countP p ≤ 40))) := by
  unfold progB inB
  congr 1
  rw [Bool.eq_iff_iff, decide_eq_true_eq, decide_eq_true_eq]
  omega
def stmtCountI (p : List Fu) (b : Bool) : Int := if b then (countP p : Int) else -1
def nestI (p : List Fu) (b : Bool) : Int := if b then (nestP p : Int) else -1
set_option maxHeartbeats 2000000 in
theorem specProgramValid_any (p : List Fu) (hbk : bulkFL p ≤ 1048576) (v : Value) (w : World) (hV : PrV w (Lt w.heap.size) p v) :
    Calls Tryd.prog 16 #[v] w (BoolB (progB p) w) := by
  have CA := fun W (h : Below w.heap.size w W) => Lib.hid (l3All_any p hbk v W (hV.on h h.size))
  obtain ⟨A, c, rfl, hR⟩ := hV
  have HF := Lib.hid (progB_ask p)
  generalize progB p = res at *
  have hn : p.length ≤ 1048576 := by have := length_le_bulkFL p; omega
  have hcp : countP p ≤ 1048576 := by have := countP_bulk p; omega
  have HBK := Lib.hid hbk
  have HR := Lib.hid hR
  clear hR hbk
  obtain ⟨c0, hlt, hb⟩ := box1 w (.slice A p.length c) 42
  go_enter Tryd.func16, Tryd.ntmps16
  go_wp2_with fail
  generalize w.alloc (.cells #[.slice A p.length c] 42) = wa at *
  (with_reducible refine Calls.mono (l1In_b _ _ _ _) ?_)
  rintro ee w1 ⟨rfl, rfl⟩
  cases h1 : inB 1 (p.length : Int) 4
  · have HN := Lib.hid (show res = false by rw [HF.out, h1]; rfl)
    clear h1 CA
    go_wp2_with fail
    go_ret
    exact ⟨by rw [HN.out]; rfl, hb⟩
  have H1 := Lib.hid h1
  clear h1
  go_wp2_with fail
  go_loopw [3] (fun i wr => ∃ k : Nat, k ≤ p.length ∧ i = .int .i64 k ∧ allTo fnB p k ∧ Below wa.heap.size wa wr) (fun i _ => p.length - (intOf i).toNat)
  case atStart => exact ⟨0, Nat.zero_le _, rfl, allTo_zero _ _, Below.refl _ _⟩
  case round =>
    obtain ⟨k, hk, rfl, hall, hbr⟩ := hrel
    have HKT := Lib.hid hall
    have hbw := hb.trans (hbr.mono (Nat.le_of_lt hlt))
    have hbs := hbw.size
    have g0 := (hbr.cell (p := ⟨w.heap.size, 0, none⟩) hlt).trans c0
    clear hall
    by_cases hlk : k < p.length
    · have hbm := bulkFL_mem (List.getElem_mem hlk)
      obtain ⟨b, o, rfl, hB, d0, ⟨A1, p1, d1, r1⟩, A2, p2, d2, r2⟩ := (HR.out.on hbw hbs).at_ hlk
      have CK := l3Fn_any p[k] (by have := HBK.out; omega) _ wr ⟨A1, p1, A2, p2, rfl, r1, r2⟩
      clear r1 r2 hbm CA
      generalize hkd : p[k] = kid at *
      have HKD := Lib.hid hkd
      clear hkd
      cases hv : fnB kid
      · rw [hv] at CK
        have HN := Lib.hid (show res = false by rw [HF.out, H1.out, all_bad (p := fnB) hlk (by rw [HKD.out]; exact hv)]; rfl)
        clear hv HKD
        obtain ⟨s', a', b'⟩ := kid
        dsimp only at d0 d1 d2 CK
        replace CK := Lib.hid CK
        go_wp2_with ((go_at_call 40; (with_reducible refine Calls.mono CK.out ?_); rintro ee w2 ⟨rfl, hb2⟩; have hb3 := hbw.trans (hb2.mono hbs)))
        go_ret
        exact ⟨by rw [HN.out]; rfl, hb3⟩
      · rw [hv] at CK
        have HN := Lib.hid (allTo_succ HKT.out hlk (by rw [HKD.out]; exact hv))
        clear hv HKD
        obtain ⟨s', a', b'⟩ := kid
        dsimp only at d0 d1 d2 CK
        replace CK := Lib.hid CK
        go_wp2_with ((go_at_call 40; (with_reducible refine Calls.mono CK.out ?_); rintro ee w2 ⟨rfl, hb2⟩; have hb3 := hbr.trans (hb2.mono hbr.size)))
        go_roundw
        case rel => exact ⟨k + 1, by omega, by go_num, HN.out, hb3⟩
        case measure => simp only [intOf]; omega
    · obtain rfl : k = p.length := by omega
      have HN := Lib.hid (show res = decide (countP p ≤ 40) by rw [HF.out, H1.out, all_of HKT.out]; rfl)
      have CA1 := Lib.hid (CA _ hbw).out
      clear CA HF H1 HR HBK HKT
      generalize countP p = m at *
      by_cases hm : (m : Int) ≤ 40
      · have HN2 := Lib.hid (HN.out.trans (decide_eq_true (by omega)))
        clear HN
        go_wp2_with ((go_at_call 41; (with_reducible refine Calls.mono CA1.out ?_); rintro ee w2 ⟨rfl, hb2⟩; have hb3 := hbw.trans (hb2.mono hbs)))
        go_ret
        exact ⟨by rw [HN2.out]; rfl, hb3⟩
      · have HN2 := Lib.hid (HN.out.trans (decide_eq_false (by omega)))
        clear HN
        go_wp2_with ((go_at_call 41; (with_reducible refine Calls.mono CA1.out ?_); rintro ee w2 ⟨rfl, hb2⟩; have hb3 := hbw.trans (hb2.mono hbs)))
        go_ret
        exact ⟨by rw [HN2.out]; exact ret_bool (decide_eq_false (by omega)), hb3⟩
set_option maxHeartbeats 1000000 in
theorem specStmtCount_any (p : List Fu) (hbk : bulkFL p ≤ 1048576) (v : Value) (w : World) (hV : PrV w (Lt w.heap.size) p v) :
    Calls Tryd.prog 20 #[v] w (IntB (stmtCountI p (progB p)) w) := by
  have CV := fun W (h : Below w.heap.size w W) => Lib.hid (specProgramValid_any p hbk v W (hV.on h h.size))
  have CA := fun W (h : Below w.heap.size w W) => Lib.hid (l3All_any p hbk v W (hV.on h h.size))
  obtain ⟨A, c, rfl, _⟩ := hV
  obtain ⟨c0, hlt, hb⟩ := box1 w (.slice A p.length c) 42
  have hbs := hb.size
  have CV1 := (CV _ hb).out
  clear CV
  cases hv : progB p
  · rw [hv] at CV1
    clear hv CA
    replace CV1 := Lib.hid CV1
    go_enter Tryd.func20, Tryd.ntmps20
    go_wp2_with fail
    (with_reducible refine Calls.mono CV1.out ?_)
    rintro ee w2 ⟨rfl, hb2⟩
    have hb3 := hb.trans (hb2.mono hbs)
    go_wp2_with fail
    go_ret
    exact ⟨rfl, hb3⟩
  · rw [hv] at CV1
    clear hv
    replace CV1 := Lib.hid CV1
    go_enter Tryd.func20, Tryd.ntmps20
    go_wp2_with fail
    (with_reducible refine Calls.mono CV1.out ?_)
    rintro ee w2 ⟨rfl, hb2⟩
    have hb3 := hb.trans (hb2.mono hbs)
    have g0 := (hb2.cell (p := ⟨w.heap.size, 0, none⟩) hlt).trans c0
    have CA1 := Lib.hid (CA _ hb3).out
    clear CA
    go_wp2_with fail
    (with_reducible refine Calls.mono CA1.out ?_)
    rintro ee w4 ⟨rfl, hb4⟩
    have hb5 := hb3.trans (hb4.mono hb3.size)
    go_wp2_with fail
    go_ret
    exact ⟨rfl, hb5⟩
set_option maxHeartbeats 2000000 in
theorem specNestOf_any (p : List Fu) (hbk : bulkFL p ≤ 1048576) (v : Value) (w : World) (hV : PrV w (Lt w.heap.size) p v) :
    Calls Tryd.prog 22 #[v] w (IntB (nestI p (progB p)) w) := by
  have CV := fun W (h : Below w.heap.size w W) => Lib.hid (specProgramValid_any p hbk v W (hV.on h h.size))
  obtain ⟨A, c, rfl, hR⟩ := hV
  have hn : p.length ≤ 1048576 := by have := length_le_bulkFL p; omega
  have hcp : nestP p ≤ 1048576 := by have := countP_bulk p; have := nestP_le p; omega
  have HBK := Lib.hid hbk
  have HR := Lib.hid hR
  clear hR hbk
  obtain ⟨c0, hlt, hb⟩ := box1 w (.slice A p.length c) 42
  have hbs := hb.size
  have CV1 := (CV _ hb).out
  clear CV
  cases hv : progB p
  · rw [hv] at CV1
    clear hv
    replace CV1 := Lib.hid CV1
    go_enter Tryd.func22, Tryd.ntmps22
    go_wp2_with fail
    (with_reducible refine Calls.mono CV1.out ?_)
    rintro ee w2 ⟨rfl, hb2⟩
    have hb3 := hb.trans (hb2.mono hbs)
    go_wp2_with fail
    go_ret
    exact ⟨rfl, hb3⟩
  · rw [hv] at CV1
    clear hv
    replace CV1 := Lib.hid CV1
    go_enter Tryd.func22, Tryd.ntmps22
    go_wp2_with fail
    (with_reducible refine Calls.mono CV1.out ?_)
    rintro ee w2 ⟨rfl, hb2⟩
    have hb3 := hb.trans (hb2.mono hbs)
    have g0 := (hb2.cell (p := ⟨w.heap.size, 0, none⟩) hlt).trans c0
    have hlt2 := Nat.lt_of_lt_of_le hlt hb2.size
    clear c0 hlt hb hb2 hbs CV1
    go_wp2_with fail
    go_loopw [3, 4] (fun m i wr => ∃ k : Nat, k ≤ p.length ∧ i = .int .i64 k ∧ m = .int .i64 ((nestP (p.take k) : Nat) : Int) ∧ Below w2.heap.size w2 wr) (fun _ i _ => p.length - (intOf i).toNat)
    case atStart => exact ⟨0, Nat.zero_le _, rfl, rfl, Below.refl _ _⟩
    case round =>
      obtain ⟨k, hk, rfl, rfl, hbr⟩ := hrel
      have hbw := hb3.trans (hbr.mono hb3.size)
      have hbs := hbw.size
      have q0 := (hbr.cell (p := ⟨w.heap.size, 0, none⟩) hlt2).trans g0
      by_cases hlk : k < p.length
      · have HT := Lib.hid (nestP_take hlk)
        have hna := nestP_app (p.take k) (p.drop k)
        rw [List.take_append_drop] at hna
        have hbm := bulkFL_mem (List.getElem_mem hlk)
        have hbf : bulkF p[k] = p[k].name.size + bulkS p[k].params + bulkTL p[k].body := rfl
        have hn2 := nestTL_le p[k].body
        have hn3 := sizeTL_bulk p[k].body
        obtain ⟨b, o, rfl, hB, _, _, A2, p2, d2, r2⟩ := (HR.out.on hbw hbs).at_ hlk
        have CK := Lib.hid (l3Nest_any _ p[k].body (Nat.le_refl _) A2 p2 wr r2 (by have := HBK.out; omega))
        have hs2 : nestTL p[k].body ≤ 1048576 := by have := HBK.out; omega
        have hm1 : nestP (p.take k) ≤ 1048576 := by omega
        clear r2 hbm hbf hn2 hn3 hna
        generalize p[k].body.length = n2 at *
        generalize nestTL p[k].body = s2 at *
        generalize nestP (p.take k) = m at *
        go_wp2_with ((go_at_call 45; (with_reducible refine Calls.mono CK.out ?_); rintro ee w4 ⟨rfl, hb4⟩; have hb5 := hbr.trans (hb4.mono hbr.size)))
        go_roundw
        case rel => exact ⟨k + 1, by omega, by go_num, by rw [HT.out]; go_num, hb5⟩
        case measure => simp only [intOf]; omega
      · obtain rfl : k = p.length := by omega
        go_wp2
        go_ret
        exact ⟨by rw [List.take_length]; rfl, hbw⟩
end Go.Proofs.YtkgfamagienfpaaDoor
