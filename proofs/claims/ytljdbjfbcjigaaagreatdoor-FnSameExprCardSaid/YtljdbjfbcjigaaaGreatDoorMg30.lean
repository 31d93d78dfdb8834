/-
  ProgramValid, StmtCount and NestOf of the program.
-/
import Derived.Test.YtljdbjfbcjigaaaGreatDoorMg23
import Derived.Test.YtljdbjfbcjigaaaGreatDoorMg29
namespace Go.Proofs.YtljdbjfbcjigaaaGreatDoor
open Go.RowKit
set_option maxRecDepth 100000

/-- What surveyOf returns. -/
def SurveyRet (p : List Fu) (w : World) (ee : Ending) (w' : World) : Prop := (∃ c d : Nat, ee = .returned (.tuple #[.agg #[.int .i64 40, .int .i64 (c : Int), .int .i64 (d : Int)], .bool (progB p)]) ∧ (progB p = true → c = countP p ∧ d = nestP p)) ∧ Below w.heap.size w w'
theorem Three.newS (w : World) (a : List Value) (t : TypeId) : Three w (((w.alloc (.cells a.toArray t)).alloc (.cells #[.int .i64 0, .int .i64 0, .int .i64 0] 169)).alloc (.cells #[.int .i64 40, .int .i64 0, .int .i64 0] 169)) w.heap.size a [.int .i64 0, .int .i64 0, .int .i64 0] [.int .i64 40, .int .i64 0, .int .i64 0] := Three.new w a _ _ t _ _
theorem three_surv (w : World) (a : Obj) (b : Obj) : SurvAt (((w.alloc a).alloc b).alloc (.cells #[.int .i64 40, .int .i64 0, .int .i64 0] 169)) (w.heap.size + 1 + 1) 40 0 0 := by
  have S := SurvAt.new ((w.alloc a).alloc b) 40 0 0
  rw [World.size_alloc, World.size_alloc] at S
  exact S
set_option maxHeartbeats 4000000 in
theorem surveyOf_any (p : List Fu) (hbk : bulkFL p ≤ 1048576) (v : Value) (w : World) (hV : PrV w (Lt w.heap.size) p v) (T : Tabs w) (G : Sgn w) (F : Fms w) :
    Calls Tryz.prog 122 #[v] w (SurveyRet p w) := by
  obtain ⟨A, c, rfl, hR⟩ := hV
  unfold SurveyRet
  have HF := Lib.hid (show progB p = (decide (1 ≤ p.length ∧ p.length ≤ 4) && (p.all fnB && decide (countP p ≤ 40))) from rfl)
  generalize progB p = res at *
  have hn : p.length ≤ 1048576 := by have := length_le_bulkFL p; omega
  have HBK := Lib.hid hbk
  have T0 := Lib.hid (Three.newS w [.slice A p.length c] 43)
  have S0 := Lib.hid (three_surv w (.cells #[.slice A p.length c] 43) (.cells #[.int .i64 0, .int .i64 0, .int .i64 0] 169))
  have e0 : w.alloc (.cells [.slice A p.length c].toArray 43) = w.alloc (.cells #[.slice A p.length c] 43) := rfl
  rw [e0] at T0
  clear e0 hbk
  go_enter Tryz.func122, Tryz.ntmps122
  go_upto_region 2 with (fail)
  generalize ((w.alloc (.cells #[.slice A p.length c] 43)).alloc (.cells #[.int .i64 0, .int .i64 0, .int .i64 0] 169)).alloc (.cells #[.int .i64 40, .int .i64 0, .int .i64 0] 169) = wa at *
  have HTB := Lib.hid (show TBase (w.heap.size + 1 + 1) wa from ⟨w, T, G, F, by omega, T0.out.below⟩)
  have HR := Lib.hid (hR.keep (lt_keep T0.out.below) (fun b (h : b < w.heap.size) => (show Ne (w.heap.size + 1 + 1) wa.heap.size b from ⟨by omega, by have := T0.out.size; omega⟩)))
  clear hR T G F
  have k0 := T0.out.ba 0 _ rfl
  have hsz := T0.out.size
  by_cases hin : 1 ≤ p.length ∧ p.length ≤ 4
  · have q1 : ((p.length : Int) == 0) = false := beq_no (by omega)
    have q2 : ¬ (4 : Int) < (p.length : Int) := by omega
    have HQ := Lib.hid (show res = (p.all fnB && decide (countP p ≤ 40)) by rw [HF.out, decide_eq_true hin]; rfl)
    clear hin HF
    go_wp2_with fail
    clear q1 q2
    go_loopw [22] (fun i wr => ∃ k : Nat, k ≤ p.length ∧ i = .int .i64 k ∧ allTo fnB p k ∧ countP (p.take k) ≤ 40 ∧ SurvAt wr (w.heap.size + 1 + 1) 40 (countP (p.take k)) (nestP (p.take k)) ∧ Touch (w.heap.size + 1 + 1) wa wr) (fun i _ => p.length - (intOf i).toNat)
    case atStart => exact ⟨0, Nat.zero_le _, rfl, allTo_zero _ _, by rw [List.take_zero]; exact Nat.zero_le _, S0.out, Touch.refl _ _⟩
    case round =>
      clear S0 k0
      obtain ⟨k, hk, rfl, hall, hck, hS, hTo⟩ := hrel
      have HKT := Lib.hid hall
      clear hall
      by_cases hlk : k < p.length
      · have HTK := Lib.hid (countP_take hlk)
        have HNK := Lib.hid (nestP_take hlk)
        have HTL := Lib.hid (countP_take_le p (k + 1))
        have HKK := Lib.hid (And.intro (bulkFL_mem (List.getElem_mem hlk)) (show bulkF p[k] = p[k].name.size + bulkS p[k].params + bulkTL p[k].body from rfl))
        have hszb := sizeTL_bulk p[k].body
        obtain ⟨b, o, rfl, hB, d0, ⟨A1, p1, d1, r1⟩, A2, p2, d2, r2⟩ := (HR.out.keep (touch_keep hTo) (fun _ h => h)).at_ hlk
        have R2 := Lib.hid r2
        have HV := Lib.hid (show FuV wr (Ne (w.heap.size + 1 + 1) wa.heap.size) p[k] (.agg #[.string p[k].name, .slice A1 p[k].params.length p1, .slice A2 p[k].body.length p2]) from ⟨A1, p1, A2, p2, rfl, r1, r2⟩)
        clear r1 r2
        have hgl := hS.lt
        have HBg : b < wr.heap.size := Nat.lt_of_lt_of_le hB.2 hTo.below.size
        generalize hkd : p[k] = kid at *
        have HKD := Lib.hid hkd
        clear hkd
        generalize hck' : countP (p.take k) = ck at *
        generalize hek' : nestP (p.take k) = ek at *
        have HCK := Lib.hid hck'
        have HEK := Lib.hid hek'
        clear hck' hek'
        have BX0 := Lib.hid (BxL.new wr [.string kid.name, .slice A1 kid.params.length p1, .slice A2 kid.body.length p2] 70)
        have e1 : wr.alloc (.cells [.string kid.name, .slice A1 kid.params.length p1, .slice A2 kid.body.length p2].toArray 70) = wr.alloc (.cells #[.string kid.name, .slice A1 kid.params.length p1, .slice A2 kid.body.length p2] 70) := rfl
        rw [e1] at BX0
        clear e1
        have hal := (Below.refl wr.heap.size wr).alloc (Nat.le_refl _) (.cells #[.string kid.name, .slice A1 kid.params.length p1, .slice A2 kid.body.length p2] 70)
        have hlx : wr.heap.size < (wr.alloc (.cells #[.string kid.name, .slice A1 kid.params.length p1, .slice A2 kid.body.length p2] 70)).heap.size := by rw [World.size_alloc]; omega
        have SX0 := Lib.hid (hS.below hal)
        have TX := Lib.hid (hTo.then hal hgl)
        clear hal
        go_upto_region 7 with (fail)
        generalize wr.alloc (.cells #[.string kid.name, .slice A1 kid.params.length p1, .slice A2 kid.body.length p2] 70) = wx at *
        clear d0 d1 d2
        have x0 := BX0.out 0 _ rfl
        have x1 := BX0.out 1 _ rfl
        have x2 := BX0.out 2 _ rfl
        have CH := headFits_any kid (by have h := HKK.out; have := HBK.out; omega) _ wx (HV.out.keep (fun b o hb => (touch_keep TX.out b o hb).trans (touch_keep hTo b o hb).symm) (fun b hb => Nat.lt_of_lt_of_le hb.2 TX.out.below.size)) (HTB.out.on TX.out.below).get.1
        have hgx := SX0.out.lt
        cases hh : headF kid
        · rw [hh] at CH
          have HN := Lib.hid (show res = false by rw [HQ.out, all_bad (p := fnB) hlk (by rw [HKD.out]; unfold fnB; rw [hh]; rfl)]; rfl)
          clear hh
          replace CH := Lib.hid CH
          go_wp2_with fail
          refine Calls.mono CH.out ?_
          rintro ee w3 ⟨rfl, hb3⟩
          have T3 := Lib.hid (TX.out.then hb3 hgx)
          obtain ⟨s0, s1, s2⟩ := (SX0.out.below hb3).cells
          have BR := Lib.hid (show BxL w3 (w.heap.size + 1) _ from T0.out.br.below T3.out.below (by omega))
          have FR := Lib.hid (T0.out.fr.below T3.out.below (by omega))
          have HB := Lib.hid (T0.out.below.trans (T3.out.below.mono (by omega)))
          have f0 := FR.out 0
          have f1 := FR.out 1
          have f2 := FR.out 2
          have g0 := BR.out 0 _ rfl
          have g1 := BR.out 1 _ rfl
          have g2 := BR.out 2 _ rfl
          clear CH hb3
          go_wp2_with fail
          refine bodyPost_ret (v := .tuple #[.agg #[.int .i64 40, .int .i64 (ck : Int), .int .i64 (ek : Int)], .bool false]) (by simp [results, Tryz.results122, go_sem, g0, g1, g2]) rfl ⟨⟨ck, ek, by rw [HN.out], fun h => by rw [HN.out] at h; cases h⟩, ?_⟩
          exact (((HB.out.setCell (p := ⟨w.heap.size + 1, 0, none⟩) (Nat.le_succ _) _).setCell (p := ⟨w.heap.size + 1, 1, none⟩) (Nat.le_succ _) _).setCell (p := ⟨w.heap.size + 1, 2, none⟩) (Nat.le_succ _) _)
        · rw [hh] at CH
          have HHF := Lib.hid hh
          clear hh
          replace CH := Lib.hid CH
          go_wp2_with fail
          refine Calls.mono CH.out ?_
          rintro ee w3 ⟨rfl, hb3⟩
          have T3 := Lib.hid (TX.out.then hb3 hgx)
          have S3 := Lib.hid (SX0.out.below hb3)
          have y2 := (BX0.out.below hb3 hlx) 2 _ rfl
          clear CH hb3 x0 x1 x2
          have CS := survOk_any 4 (Nat.le_refl _) kid.body (w.heap.size + 1 + 1) 40 ck ek A2 p2 w3 S3.out (HTB.out.on T3.out.below) (R2.out.keep (fun b o hb => (touch_keep T3.out b o hb).trans (touch_keep hTo b o hb).symm) (fun b hb => ⟨hb.1, Nat.lt_of_lt_of_le hb.2 T3.out.below.size⟩)) (by have h := HKK.out; have := HBK.out; omega) hck (by have h := HKK.out; have := HBK.out; omega) (by omega) (by omega)
          rw [show (5 - ((4 : Nat) : Int)) = 1 from rfl] at CS
          cases hf : (kid.body.all (formT 4) && decide (ck + sizeTL kid.body ≤ 40))
          · rw [hf] at CS
            have HN := Lib.hid (show res = false by
              rw [HQ.out]
              rw [Bool.and_eq_false_iff] at hf
              rcases hf with h | h
              · rw [all_bad (p := fnB) hlk (by rw [HKD.out]; unfold fnB; rw [h, Bool.and_false]), Bool.false_and]
              · rw [decide_eq_false (p := countP p ≤ 40) (by have h0 := of_decide_eq_false h; have h1 := HTK.out; have h2 := HTL.out; have h3 := HCK.out; omega), Bool.and_false])
            clear hf
            replace CS := Lib.hid CS
            go_wp2_with fail
            refine Calls.mono CS.out ?_
            rintro ee w4 ⟨rfl, t4, c', d', s4, _⟩
            obtain ⟨s0, s1, s2⟩ := s4.cells
            have T4 := Lib.hid (T3.out.trans t4)
            have BR := Lib.hid (show BxL w4 (w.heap.size + 1) _ from T0.out.br.below T4.out.below (by omega))
            have FR := Lib.hid (T0.out.fr.below T4.out.below (by omega))
            have HB := Lib.hid (T0.out.below.trans (T4.out.below.mono (by omega)))
            have f0 := FR.out 0
            have f1 := FR.out 1
            have f2 := FR.out 2
            have g0 := BR.out 0 _ rfl
            have g1 := BR.out 1 _ rfl
            have g2 := BR.out 2 _ rfl
            clear CS t4 s4 y2
            go_wp2_with fail
            refine bodyPost_ret (v := .tuple #[.agg #[.int .i64 40, .int .i64 (c' : Int), .int .i64 (d' : Int)], .bool false]) (by simp [results, Tryz.results122, go_sem, g0, g1, g2]) rfl ⟨⟨c', d', by rw [HN.out], fun h => by rw [HN.out] at h; cases h⟩, ?_⟩
            exact (((HB.out.setCell (p := ⟨w.heap.size + 1, 0, none⟩) (Nat.le_succ _) _).setCell (p := ⟨w.heap.size + 1, 1, none⟩) (Nat.le_succ _) _).setCell (p := ⟨w.heap.size + 1, 2, none⟩) (Nat.le_succ _) _)
          · rw [hf] at CS
            rw [Bool.and_eq_true, decide_eq_true_eq] at hf
            have HB1 := Lib.hid hf
            clear hf
            replace CS := Lib.hid CS
            go_wp2_with fail
            refine Calls.mono CS.out ?_
            rintro ee w4 ⟨rfl, t4, c', d', s4, hcd⟩
            obtain ⟨hc', hd'⟩ := hcd rfl
            subst hc' hd'
            have T4 := Lib.hid (T3.out.trans t4)
            have S4 := Lib.hid s4
            clear CS t4 s4 y2 hcd
            go_wp2_with fail
            go_roundw
            case rel =>
              have h1 := HTK.out
              have h4 := HNK.out
              refine ⟨k + 1, by omega, by go_num, allTo_succ HKT.out hlk (by rw [HKD.out]; unfold fnB; rw [HHF.out, HB1.out.1]; rfl), by rw [h1]; exact HB1.out.2, ?_, T4.out⟩
              rw [h1, h4, show max ek (nestTL kid.body) = max ek (4 - 4 + nestTL kid.body) by omega]
              exact S4.out
            case measure => simp only [intOf]; omega
      · obtain rfl : k = p.length := by omega
        rw [List.take_length] at hck hS
        have HN := Lib.hid (show res = true by rw [HQ.out, all_of HKT.out, decide_eq_true hck]; rfl)
        obtain ⟨s0, s1, s2⟩ := hS.cells
        have BR := Lib.hid (show BxL wr (w.heap.size + 1) _ from T0.out.br.below hTo.below (by omega))
        have FR := Lib.hid (T0.out.fr.below hTo.below (by omega))
        have HB := Lib.hid (T0.out.below.trans (hTo.below.mono (by omega)))
        have f0 := FR.out 0
        have f1 := FR.out 1
        have f2 := FR.out 2
        have g0 := BR.out 0 _ rfl
        have g1 := BR.out 1 _ rfl
        have g2 := BR.out 2 _ rfl
        clear hS hTo hck
        generalize hcp : countP p = cp at *
        generalize hnp : nestP p = np at *
        have HCN := Lib.hid (And.intro hcp.symm hnp.symm)
        clear hcp hnp
        go_wp2_with fail
        refine bodyPost_ret (v := .tuple #[.agg #[.int .i64 40, .int .i64 (cp : Int), .int .i64 (np : Int)], .bool true]) (by simp [results, Tryz.results122, go_sem, g0, g1, g2]) rfl ⟨⟨cp, np, by rw [HN.out], fun _ => HCN.out⟩, ?_⟩
        exact (((HB.out.setCell (p := ⟨w.heap.size + 1, 0, none⟩) (Nat.le_succ _) _).setCell (p := ⟨w.heap.size + 1, 1, none⟩) (Nat.le_succ _) _).setCell (p := ⟨w.heap.size + 1, 2, none⟩) (Nat.le_succ _) _)
  · have HN := Lib.hid (show res = false by rw [HF.out, decide_eq_false hin]; rfl)
    obtain ⟨s0, s1, s2⟩ := S0.out.cells
    have f0 := T0.out.fr 0
    have f1 := T0.out.fr 1
    have f2 := T0.out.fr 2
    have g0 := T0.out.br 0 _ rfl
    have g1 := T0.out.br 1 _ rfl
    have g2 := T0.out.br 2 _ rfl
    have HB := Lib.hid T0.out.below
    by_cases hz : p.length = 0
    · have q1 : ((p.length : Int) == 0) = true := beq_yes (by omega)
      clear hin hz
      go_wp2_with fail
      refine bodyPost_ret (v := .tuple #[.agg #[.int .i64 40, .int .i64 ((0 : Nat) : Int), .int .i64 ((0 : Nat) : Int)], .bool false]) (by simp [results, Tryz.results122, go_sem, g0, g1, g2]) rfl ⟨⟨0, 0, by rw [HN.out], fun h => by rw [HN.out] at h; cases h⟩, ?_⟩
      exact (((HB.out.setCell (p := ⟨w.heap.size + 1, 0, none⟩) (Nat.le_succ _) _).setCell (p := ⟨w.heap.size + 1, 1, none⟩) (Nat.le_succ _) _).setCell (p := ⟨w.heap.size + 1, 2, none⟩) (Nat.le_succ _) _)
    · have q1 : ((p.length : Int) == 0) = false := beq_no (by omega)
      have q2 : (4 : Int) < (p.length : Int) := by omega
      clear hin hz
      go_wp2_with fail
      refine bodyPost_ret (v := .tuple #[.agg #[.int .i64 40, .int .i64 ((0 : Nat) : Int), .int .i64 ((0 : Nat) : Int)], .bool false]) (by simp [results, Tryz.results122, go_sem, g0, g1, g2]) rfl ⟨⟨0, 0, by rw [HN.out], fun h => by rw [HN.out] at h; cases h⟩, ?_⟩
      exact (((HB.out.setCell (p := ⟨w.heap.size + 1, 0, none⟩) (Nat.le_succ _) _).setCell (p := ⟨w.heap.size + 1, 1, none⟩) (Nat.le_succ _) _).setCell (p := ⟨w.heap.size + 1, 2, none⟩) (Nat.le_succ _) _)
end Go.Proofs.YtljdbjfbcjigaaaGreatDoor

namespace Go.Proofs.YtljdbjfbcjigaaaGreatDoor
open Go.RowKit
set_option maxRecDepth 100000

set_option maxHeartbeats 2000000 in
theorem implProgramValid_any (p : List Fu) (hbk : bulkFL p ≤ 1048576) (v : Value) (w : World) (hV : PrV w (Lt w.heap.size) p v) (T : Tabs w) (G : Sgn w) (F : Fms w) :
    Calls Tryz.prog 76 #[v] w (BoolB (progB p) w) := by
  have CS := fun W (h : Below w.heap.size w W) => Lib.hid (surveyOf_any p hbk v W (hV.on h h.size) (T.below h) (G.below h) (F.below h))
  unfold SurveyRet at CS
  obtain ⟨A, c, rfl, _⟩ := hV
  obtain ⟨_, hlt, hb⟩ := box1 w (.slice A p.length c) 43
  have hbs := hb.size
  have CS1 := Lib.hid (CS _ hb).out
  clear CS T G F
  generalize progB p = res at *
  go_enter Tryz.func76, Tryz.ntmps76
  go_wp2_with fail
  (with_reducible refine Calls.mono CS1.out ?_)
  rintro ee w2 ⟨⟨c, d, rfl, _⟩, hb2⟩
  have hb3 := (hb.trans (hb2.mono hbs)).alloc (Nat.le_trans hbs hb2.size) (.cells #[.int .i64 40, .int .i64 (c : Int), .int .i64 (d : Int)] 169)
  go_wp2_with fail
  go_ret
  exact ⟨rfl, hb3⟩
end Go.Proofs.YtljdbjfbcjigaaaGreatDoor
