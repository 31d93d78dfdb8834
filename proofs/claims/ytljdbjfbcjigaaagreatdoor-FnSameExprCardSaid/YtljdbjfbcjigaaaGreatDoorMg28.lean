/-
  The survey of statements: the program.
-/
import Derived.Test.YtljdbjfbcjigaaaGreatDoorMg22
import Derived.Test.YtljdbjfbcjigaaaGreatDoorMg26
namespace Go.Proofs.YtljdbjfbcjigaaaGreatDoor
open Go.RowKit
set_option maxRecDepth 100000

theorem size0 {s : ByteArray} : s.size = 0 ↔ s = ⟨#[]⟩ := by
  constructor
  · intro h
    obtain ⟨d⟩ := s
    have : d = #[] := Array.eq_empty_of_size_eq_zero h
    rw [this]
  · rintro rfl; rfl
set_option maxHeartbeats 1000000 in
theorem fitsName_any (op : Int) (s : ByteArray) (w : World) (T : Tabs w) :
    Calls Tryz.prog 240 #[formV op, .string s] w (BoolB (nameFit op s) w) := by
  unfold formV
  have hb : Below w.heap.size w (w.alloc (.cells #[.int .i64 op, .string (fKey op), .bool (nmdB op), .int .i64 (argN op : Int), .bool (clB op), .bool (wbB op), .bool (weB op)] 282)) := (Below.refl _ _).alloc (Nat.le_refl _) _
  have CN0 := implIsName_any s _ (T.below hb)
  have hbs := hb.size
  clear T
  generalize fKey op = key at *
  generalize (argN op : Int) = ar at *
  generalize clB op = cl at *
  generalize wbB op = wb at *
  generalize weB op = we at *
  have HQ := Lib.hid (show nameFit op s = if nmdB op then nameB s else decide (s.size = 0) by
    unfold nameFit nmdB
    by_cases h : op = 1 ∨ op = 2
    · rw [if_pos h, if_pos (by rw [decide_eq_true h])]
    · rw [if_neg h, if_neg (by rw [decide_eq_false h]; simp)])
  generalize nameFit op s = res at *
  cases hn : nmdB op
  · rw [hn] at HQ hb hbs
    clear hn CN0
    by_cases he : s = ⟨#[]⟩
    · have HN := Lib.hid (show res = true by rw [HQ.out, if_neg (by simp), decide_eq_true (size0.2 he)])
      clear HQ
      subst he
      go_enter Tryz.func240, Tryz.ntmps240
      go_wp2_with fail
      go_ret
      exact ⟨by rw [HN.out]; rfl, hb⟩
    · have q1 := str_eq_false he
      obtain ⟨e1, e2⟩ := full_str he
      have HN := Lib.hid (show res = false by rw [HQ.out, if_neg (by simp), decide_eq_false (fun h => he (size0.1 h))])
      clear he HQ
      go_enter Tryz.func240, Tryz.ntmps240
      go_wp2_with fail
      go_ret
      exact ⟨by rw [HN.out]; rfl, hb⟩
  · rw [hn] at HQ hb hbs CN0
    have HN := Lib.hid (show res = nameB s by rw [HQ.out, if_pos rfl])
    clear hn HQ
    have CN := Lib.hid CN0
    clear CN0
    go_enter Tryz.func240, Tryz.ntmps240
    go_wp2_with fail
    (with_reducible refine Calls.mono CN.out ?_)
    rintro ee w2 ⟨rfl, rfl⟩
    go_wp2_with fail
    go_ret
    exact ⟨by rw [HN.out]; rfl, hb⟩
set_option maxHeartbeats 2000000 in
theorem fitsArgs_any (op : Int) (al : List E) (A : Option Addr) (cap : Nat) (w : World) (hR : PdS w (Lt w.heap.size) al A) (hbk : bulkL al ≤ 1048576) (T : Tabs w) (G : Sgn w) :
    Calls Tryz.prog 241 #[formV op, .slice A al.length cap] w (BoolB (argsFit op al) w) := by
  unfold formV
  have BF := Lib.hid (BxL.new w [.int .i64 op, .string (fKey op), .bool (nmdB op), .int .i64 (argN op : Int), .bool (clB op), .bool (wbB op), .bool (weB op)] 282)
  have hlt : w.heap.size < (w.alloc (.cells #[.int .i64 op, .string (fKey op), .bool (nmdB op), .int .i64 (argN op : Int), .bool (clB op), .bool (wbB op), .bool (weB op)] 282)).heap.size := by rw [World.size_alloc]; omega
  have hb : Below w.heap.size w (w.alloc (.cells #[.int .i64 op, .string (fKey op), .bool (nmdB op), .int .i64 (argN op : Int), .bool (clB op), .bool (wbB op), .bool (weB op)] 282)) := (Below.refl _ _).alloc (Nat.le_refl _) _
  have e1 : w.alloc (.cells [.int .i64 op, .string (fKey op), .bool (nmdB op), .int .i64 (argN op : Int), .bool (clB op), .bool (wbB op), .bool (weB op)].toArray 282) = w.alloc (.cells #[.int .i64 op, .string (fKey op), .bool (nmdB op), .int .i64 (argN op : Int), .bool (clB op), .bool (wbB op), .bool (weB op)] 282) := rfl
  rw [e1] at BF
  clear e1
  have hn : al.length ≤ 1048576 := by have := length_le_sizeL al; have := sizeL_bulk al; omega
  have HBK := Lib.hid hbk
  have HR := Lib.hid hR
  have TG := Lib.hid (And.intro T G)
  clear hR hbk T G
  have HQ := Lib.hid (show argsFit op al = (decide (al.length = argN op) && al.all (argOk op)) from rfl)
  have HOK := Lib.hid (show ∀ e, argOk op e = (validE e && (!clB op || decide (e.op = 13))) by
    intro e
    unfold argOk clB
    congr 2
    by_cases h : op = 8 <;> simp [h])
  generalize argsFit op al = res at *
  generalize fKey op = key at *
  generalize nmdB op = nm at *
  generalize wbB op = wb at *
  generalize weB op = we at *
  generalize argN op = ar at *
  generalize clB op = cl at *
  by_cases hl : al.length = ar
  · subst hl
    have HQ2 := Lib.hid (show res = al.all (argOk op) by rw [HQ.out]; simp)
    clear HQ
    go_enter Tryz.func241, Tryz.ntmps241
    go_upto_region 1 with (fail)
    generalize w.alloc (.cells #[.int .i64 op, .string key, .bool nm, .int .i64 (al.length : Int), .bool cl, .bool wb, .bool we] 282) = wa at *
    have c3 := BF.out 3 _ rfl
    have q0 : ((al.length : Int) != (al.length : Int)) = false := by simp
    go_wp2_with fail
    clear q0 c3
    go_loopw [14] (fun i wr => ∃ k : Nat, k ≤ al.length ∧ i = .int .i64 k ∧ allTo (argOk op) al k ∧ Below wa.heap.size wa wr) (fun i _ => al.length - (intOf i).toNat)
    case atStart => exact ⟨0, Nat.zero_le _, rfl, allTo_zero _ _, Below.refl _ _⟩
    case round =>
      obtain ⟨k, hk, rfl, hall, hbr⟩ := hrel
      have HKT := Lib.hid hall
      have hbw := hb.trans (hbr.mono (Nat.le_of_lt hlt))
      have hbs := hbw.size
      have BR := Lib.hid (BF.out.below hbr hlt)
      have hltr := Nat.lt_of_lt_of_le hlt hbr.size
      clear hall
      by_cases hlk : k < al.length
      · obtain ⟨b, o, rfl, hB, ⟨d0, d1, d2⟩, A', cap', d3, hr'⟩ := (HR.out.on hbw hbs).lt_rd.at_ hlk
        have hsz : bulkE al[k] ≤ 1048576 := by have := bulkL_mem (List.getElem_mem hlk); have := HBK.out; omega
        have hal := (Below.refl wr.heap.size wr).alloc (Nat.le_refl _) (.cells #[.int .i64 al[k].op, .int .i64 al[k].n, .string al[k].name, .slice A' al[k].kids.length cap'] 28)
        have hbx := hbw.trans (hal.mono hbs)
        have CV := implExprValid_any al[k] A' cap' _ (hr'.on hal hal.size) hsz (TG.out.1.below hbx) (TG.out.2.below hbx)
        have HOK2 := Lib.hid (HOK.out al[k])
        unfold exV at CV
        clear hr' hsz
        generalize hkd : al[k] = kid at *
        have HKD := Lib.hid hkd
        clear hkd
        have BX := Lib.hid (BxL.new wr [.int .i64 kid.op, .int .i64 kid.n, .string kid.name, .slice A' kid.kids.length cap'] 28)
        have e2 : wr.alloc (.cells [.int .i64 kid.op, .int .i64 kid.n, .string kid.name, .slice A' kid.kids.length cap'].toArray 28) = wr.alloc (.cells #[.int .i64 kid.op, .int .i64 kid.n, .string kid.name, .slice A' kid.kids.length cap'] 28) := rfl
        rw [e2] at BX
        clear e2
        have hlx : wr.heap.size < (wr.alloc (.cells #[.int .i64 kid.op, .int .i64 kid.n, .string kid.name, .slice A' kid.kids.length cap'] 28)).heap.size := by rw [World.size_alloc]; omega
        have BR2 := Lib.hid (BR.out.below hal hltr)
        have hbr2 := hbr.trans (hal.mono hbr.size)
        clear hal BR
        go_upto_region 6 with (fail)
        generalize wr.alloc (.cells #[.int .i64 kid.op, .int .i64 kid.n, .string kid.name, .slice A' kid.kids.length cap'] 28) = wx at *
        have hltx : w.heap.size < wx.heap.size := Nat.lt_of_lt_of_le hltr (Nat.le_of_lt hlx)
        have x0 := BX.out 0 _ rfl
        have x1 := BX.out 1 _ rfl
        have x2 := BX.out 2 _ rfl
        have x3 := BX.out 3 _ rfl
        clear d0 d1 d2 d3 hbr hbw
        cases hv : validE kid
        · rw [hv] at CV
          have HN := Lib.hid (show res = false by rw [HQ2.out, all_bad (p := argOk op) hlk (by rw [HKD.out, HOK2.out, hv]; rfl)])
          clear hv HOK2
          replace CV := Lib.hid CV
          go_wp2_with ((go_at_call 29; (with_reducible refine Calls.mono CV.out ?_); rintro ee w2 ⟨rfl, hb2⟩; have hb3 := hbx.trans (hb2.mono hbx.size)))
          go_ret
          exact ⟨by rw [HN.out]; rfl, hb3⟩
        · rw [hv] at CV
          replace CV := Lib.hid CV
          cases cl
          · have HN := Lib.hid (allTo_succ HKT.out hlk (by rw [HKD.out, HOK2.out, hv]; rfl))
            clear hv HOK2
            go_wp2_with fail
            (with_reducible refine Calls.mono CV.out ?_)
            rintro ee w2 ⟨rfl, hb2⟩
            have hb3 := hbr2.trans (hb2.mono hbr2.size)
            have g4 := (BR2.out.below hb2 hltx) 4 _ rfl
            go_wp2_with fail
            go_roundw
            case rel => exact ⟨k + 1, by omega, by go_num, HN.out, hb3⟩
            case measure => simp only [intOf]; omega
          · by_cases h13 : kid.op = 13
            · have HN := Lib.hid (allTo_succ HKT.out hlk (by rw [HKD.out, HOK2.out, hv, decide_eq_true h13]; rfl))
              have b13 := beq_yes h13
              have b14 : (kid.op != 13) = false := by rw [bne, b13]; rfl
              clear hv HOK2 h13
              go_wp2_with fail
              (with_reducible refine Calls.mono CV.out ?_)
              rintro ee w2 ⟨rfl, hb2⟩
              have hb3 := hbr2.trans (hb2.mono hbr2.size)
              have g4 := (BR2.out.below hb2 hltx) 4 _ rfl
              have y0 := (BX.out.below hb2 hlx) 0 _ rfl
              go_wp2_with fail
              go_roundw
              case rel => exact ⟨k + 1, by omega, by go_num, HN.out, hb3⟩
              case measure => simp only [intOf]; omega
            · have HN := Lib.hid (show res = false by rw [HQ2.out, all_bad (p := argOk op) hlk (by rw [HKD.out, HOK2.out, hv, decide_eq_false h13]; rfl)])
              have b13 := beq_no h13
              have b14 : (kid.op != 13) = true := by rw [bne, b13]; rfl
              clear hv HOK2 h13
              go_wp2_with fail
              (with_reducible refine Calls.mono CV.out ?_)
              rintro ee w2 ⟨rfl, hb2⟩
              have hb3 := hbx.trans (hb2.mono hbx.size)
              have g4 := (BR2.out.below hb2 hltx) 4 _ rfl
              have y0 := (BX.out.below hb2 hlx) 0 _ rfl
              go_wp2_with fail
              go_ret
              exact ⟨by rw [HN.out]; rfl, hb3⟩
      · obtain rfl : k = al.length := by omega
        have HN := Lib.hid (show res = true by rw [HQ2.out, all_of HKT.out])
        go_wp2_with fail
        go_ret
        exact ⟨by rw [HN.out]; rfl, hbw⟩
  · have q0 : ((al.length : Int) == (ar : Int)) = false := beq_no (by omega)
    have q1 : ((al.length : Int) != (ar : Int)) = true := by rw [bne, q0]; rfl
    have HN := Lib.hid (show res = false by rw [HQ.out, decide_eq_false hl]; rfl)
    clear hl HQ
    go_enter Tryz.func241, Tryz.ntmps241
    go_wp2_with fail
    go_ret
    exact ⟨by rw [HN.out]; rfl, hb⟩
end Go.Proofs.YtljdbjfbcjigaaaGreatDoor

namespace Go.Proofs.YtljdbjfbcjigaaaGreatDoor
open Go.RowKit
set_option maxRecDepth 100000

theorem bodyFit_w (op : Int) (n : Nat) : bodyFit op n = (wbB op || decide (n = 0)) := by
  unfold bodyFit wbB
  by_cases h : op = 5 ∨ op = 6 <;> by_cases h2 : n = 0 <;> simp [h, h2]
theorem elseFit_w (op : Int) (n : Nat) : elseFit op n = (weB op || decide (n = 0)) := by
  unfold elseFit weB
  by_cases h : op = 5 <;> by_cases h2 : n = 0 <;> simp [h, h2]
theorem two_new (w : World) (xs ys : List Value) (t t' : TypeId) :
    BxL ((w.alloc (.cells xs.toArray t)).alloc (.cells ys.toArray t')) w.heap.size xs ∧ BxL ((w.alloc (.cells xs.toArray t)).alloc (.cells ys.toArray t')) (w.heap.size + 1) ys ∧ w.heap.size + 1 < ((w.alloc (.cells xs.toArray t)).alloc (.cells ys.toArray t')).heap.size ∧ Below w.heap.size w ((w.alloc (.cells xs.toArray t)).alloc (.cells ys.toArray t')) := by
  have s1 : (w.alloc (.cells xs.toArray t)).heap.size = w.heap.size + 1 := World.size_alloc _ _
  have h1 := (Below.refl _ (w.alloc (.cells xs.toArray t))).alloc (Nat.le_refl _) (.cells ys.toArray t')
  have B := BxL.new (w.alloc (.cells xs.toArray t)) ys t'
  rw [s1] at B
  exact ⟨(BxL.new w xs t).below h1 (by omega), B, by rw [World.size_alloc, s1]; omega, two_boxes w _ _⟩
set_option maxHeartbeats 4000000 in
theorem formFits_any (op : Int) (t : St) (v : Value) (w : World) (hV : StV w (Lt w.heap.size) t v) (hbk : bulkT t ≤ 1048576) (T : Tabs w) (G : Sgn w) :
    Calls Tryz.prog 213 #[formV op, v] w (BoolB (restFit op t.name t.args t.body.length t.els.length) w) := by
  obtain ⟨A1, p1, A2, p2, A3, p3, rfl, r1, _, _⟩ := hV
  have HQ := Lib.hid (show restFit op t.name t.args t.body.length t.els.length = (nameFit op t.name && argsFit op t.args && bodyFit op t.body.length && elseFit op t.els.length) from rfl)
  rw [bodyFit_w, elseFit_w] at HQ
  generalize restFit op t.name t.args t.body.length t.els.length = res at *
  rw [bulkT_kids] at hbk
  have hlb := length_le_bulkTL t.body
  have hle := length_le_bulkTL t.els
  generalize t.op = o at *
  generalize t.name = s at *
  generalize t.args = al at *
  have hn2 : t.body.length ≤ 1048576 := by omega
  have hn3 : t.els.length ≤ 1048576 := by omega
  have hbl : bulkL al ≤ 1048576 := by omega
  clear hbk hlb hle
  generalize t.body.length = nb at *
  generalize t.els.length = ne at *
  have H2 := two_new w [.int .i64 op, .string (fKey op), .bool (nmdB op), .int .i64 (argN op : Int), .bool (clB op), .bool (wbB op), .bool (weB op)] [.int .i64 o, .string s, .slice A1 al.length p1, .slice A2 nb p2, .slice A3 ne p3] 282 209
  have e1 : (w.alloc (.cells [.int .i64 op, .string (fKey op), .bool (nmdB op), .int .i64 (argN op : Int), .bool (clB op), .bool (wbB op), .bool (weB op)].toArray 282)).alloc (.cells [.int .i64 o, .string s, .slice A1 al.length p1, .slice A2 nb p2, .slice A3 ne p3].toArray 209) = (w.alloc (.cells #[.int .i64 op, .string (fKey op), .bool (nmdB op), .int .i64 (argN op : Int), .bool (clB op), .bool (wbB op), .bool (weB op)] 282)).alloc (.cells #[.int .i64 o, .string s, .slice A1 al.length p1, .slice A2 nb p2, .slice A3 ne p3] 209) := rfl
  rw [e1] at H2
  clear e1
  obtain ⟨hF, hS, hlt, hb⟩ := H2
  have CN := fun W (h : Below w.heap.size w W) => Lib.hid (fitsName_any op s W (T.below h))
  have CA := fun W (h : Below w.heap.size w W) => Lib.hid (fitsArgs_any op al A1 p1 W (r1.on (w' := W) (B' := W.heap.size) h h.size) hbl (T.below h) (G.below h))
  have BF := Lib.hid hF
  have BS := Lib.hid hS
  clear T G r1 hbl hF hS
  unfold formV at CN CA ⊢
  generalize fKey op = key at *
  generalize nmdB op = nm at *
  generalize (argN op : Int) = ar at *
  generalize clB op = cl at *
  generalize wbB op = wb at *
  generalize weB op = we at *
  go_enter Tryz.func213, Tryz.ntmps213
  go_upto_region 1 with (fail)
  generalize (w.alloc (.cells #[.int .i64 op, .string key, .bool nm, .int .i64 ar, .bool cl, .bool wb, .bool we] 282)).alloc (.cells #[.int .i64 o, .string s, .slice A1 al.length p1, .slice A2 nb p2, .slice A3 ne p3] 209) = wa at *
  have hlt0 : w.heap.size < wa.heap.size := Nat.lt_of_succ_lt hlt
  have c0 := BF.out 0 _ rfl
  have c1 := BF.out 1 _ rfl
  have c2 := BF.out 2 _ rfl
  have c3 := BF.out 3 _ rfl
  have c4 := BF.out 4 _ rfl
  have c5 := BF.out 5 _ rfl
  have c6 := BF.out 6 _ rfl
  have s1 := BS.out 1 _ rfl
  have CN1 := (CN _ hb).out
  clear CN
  cases h1 : nameFit op s
  · rw [h1] at CN1
    have HN := Lib.hid (show res = false by rw [HQ.out, h1]; rfl)
    clear h1 CA HQ
    replace CN1 := Lib.hid CN1
    go_wp2_with ((go_at_call 240; (with_reducible refine Calls.mono CN1.out ?_); rintro ee w2 ⟨rfl, hb2⟩; have hb3 := hb.trans (hb2.mono hb.size)))
    go_ret
    exact ⟨by rw [HN.out]; rfl, hb3⟩
  rw [h1] at CN1
  have H1 := Lib.hid h1
  clear h1
  replace CN1 := Lib.hid CN1
  go_wp2_with fail
  (with_reducible refine Calls.mono CN1.out ?_)
  rintro ee w2 ⟨rfl, hb2⟩
  have hb3 := hb.trans (hb2.mono hb.size)
  have BF2 := Lib.hid (BF.out.below hb2 hlt0)
  have BS2 := Lib.hid (BS.out.below hb2 hlt)
  replace hlt := Nat.lt_of_lt_of_le hlt hb2.size
  replace hlt0 := Nat.lt_of_lt_of_le hlt0 hb2.size
  clear c0 c1 c2 c3 c4 c5 c6 s1 hb hb2 CN1 BF BS
  have c0 := BF2.out 0 _ rfl
  have c1 := BF2.out 1 _ rfl
  have c2 := BF2.out 2 _ rfl
  have c3 := BF2.out 3 _ rfl
  have c4 := BF2.out 4 _ rfl
  have c5 := BF2.out 5 _ rfl
  have c6 := BF2.out 6 _ rfl
  have s2 := BS2.out 2 _ rfl
  have CA1 := (CA _ hb3).out
  clear CA
  cases h2 : argsFit op al
  · rw [h2] at CA1
    have HN := Lib.hid (show res = false by rw [HQ.out, H1.out, h2]; rfl)
    clear h2 HQ H1
    replace CA1 := Lib.hid CA1
    go_wp2_with ((go_at_call 241; (with_reducible refine Calls.mono CA1.out ?_); rintro ee w4 ⟨rfl, hb4⟩; have hb5 := hb3.trans (hb4.mono hb3.size)))
    go_ret
    exact ⟨by rw [HN.out]; rfl, hb5⟩
  rw [h2] at CA1
  have H2 := Lib.hid h2
  clear h2
  replace CA1 := Lib.hid CA1
  go_wp2_with fail
  (with_reducible refine Calls.mono CA1.out ?_)
  rintro ee w4 ⟨rfl, hb4⟩
  have hb5 := hb3.trans (hb4.mono hb3.size)
  have BF4 := Lib.hid (BF2.out.below hb4 hlt0)
  have BS4 := Lib.hid (BS2.out.below hb4 hlt)
  clear c0 c1 c2 c3 c4 c5 c6 s2 hb3 hb4 CA1 BF2 BS2
  have c5 := BF4.out 5 _ rfl
  have c6 := BF4.out 6 _ rfl
  have s3 := BS4.out 3 _ rfl
  have s4 := BS4.out 4 _ rfl
  have HQ2 := Lib.hid (show res = ((wb || decide (nb = 0)) && (we || decide (ne = 0))) by rw [HQ.out, H1.out, H2.out]; rfl)
  clear HQ H1 H2 BF4 BS4 hlt hlt0
  cases wb <;> cases we <;> by_cases hb0 : nb = 0 <;> by_cases he0 : ne = 0
  all_goals
    have HN := Lib.hid HQ2.out
    have z1 : ((nb : Int) == 0) = decide (nb = 0) := by rw [Bool.eq_iff_iff]; simp
    have z2 : ((ne : Int) == 0) = decide (ne = 0) := by rw [Bool.eq_iff_iff]; simp
    first | rw [decide_eq_true hb0] at z1 | rw [decide_eq_false hb0] at z1
    first | rw [decide_eq_true he0] at z2 | rw [decide_eq_false he0] at z2
    simp [hb0, he0] at HN
    clear HQ2
    go_wp2_with fail
    go_ret
    exact ⟨by rw [HN.out]; rfl, hb5⟩
end Go.Proofs.YtljdbjfbcjigaaaGreatDoor

namespace Go.Proofs.YtljdbjfbcjigaaaGreatDoor
open Go.RowKit
set_option maxRecDepth 100000

/-- A survey in memory of the call's own. -/
def SurvAt (w : World) (g m c d : Nat) : Prop := w.heap[g]? = some (.cells #[.int .i64 (m : Int), .int .i64 (c : Int), .int .i64 (d : Int)] 169 (0, 0))
theorem SurvAt.lt {w : World} {g m c d : Nat} (h : SurvAt w g m c d) : g < w.heap.size := (Array.getElem?_eq_some_iff.1 h).1
theorem SurvAt.cells {w : World} {g m c d : Nat} (h : SurvAt w g m c d) : w.cell? ⟨g, 0, none⟩ = some (.int .i64 (m : Int)) ∧ w.cell? ⟨g, 1, none⟩ = some (.int .i64 (c : Int)) ∧ w.cell? ⟨g, 2, none⟩ = some (.int .i64 (d : Int)) := by
  unfold SurvAt at h
  refine ⟨?_, ?_, ?_⟩ <;> (unfold World.cell?; rw [h]; rfl)
theorem SurvAt.free {w : World} {g m c d : Nat} (h : SurvAt w g m c d) (o : Nat) : w.frozen? ⟨g, o, none⟩ = false := frozen_of_row _ _ o _ _ h
theorem SurvAt.set1 {w : World} {g m c d : Nat} (h : SurvAt w g m c d) (c' : Nat) : SurvAt (w.setCell ⟨g, 1, none⟩ (.int .i64 (c' : Int))) g m c' d := by
  unfold SurvAt at h ⊢
  unfold World.setCell
  dsimp only
  rw [Array.getElem?_modify, if_pos rfl, h]
  rfl
theorem SurvAt.set2 {w : World} {g m c d : Nat} (h : SurvAt w g m c d) (d' : Nat) : SurvAt (w.setCell ⟨g, 2, none⟩ (.int .i64 (d' : Int))) g m c d' := by
  unfold SurvAt at h ⊢
  unfold World.setCell
  dsimp only
  rw [Array.getElem?_modify, if_pos rfl, h]
  rfl
theorem SurvAt.below {w w' : World} {g m c d : Nat} (h : SurvAt w g m c d) (hb : Below w.heap.size w w') : SurvAt w' g m c d := by
  have hl := h.lt
  unfold SurvAt at h ⊢
  rw [hb.block g hl]; exact h
/-- The program's tables stood there before block g. -/
def TBase (g : Nat) (w : World) : Prop := ∃ w0, Tabs w0 ∧ Sgn w0 ∧ Fms w0 ∧ w0.heap.size ≤ g ∧ Below w0.heap.size w0 w
theorem TBase.get {g : Nat} {w : World} (h : TBase g w) : Tabs w ∧ Sgn w ∧ Fms w := by
  obtain ⟨w0, h1, h2, h3, _, h5⟩ := h
  exact ⟨h1.below h5, h2.below h5, h3.below h5⟩
theorem TBase.on {g : Nat} {w w' : World} (h : TBase g w) (hb : Below g w w') : TBase g w' := by
  obtain ⟨w0, h1, h2, h3, h4, h5⟩ := h
  exact ⟨w0, h1, h2, h3, h4, h5.trans (hb.mono h4)⟩
theorem Touch.set {g : Nat} {w w' : World} (h : Touch g w w') (o : Nat) (v : Value) : Touch g w (w'.setCell ⟨g, o, none⟩ v) := by
  refine ⟨h.below.setCell (p := ⟨g, o, none⟩) (Nat.le_refl _) _, fun k h1 h2 => ?_⟩
  rw [← h.above k h1 h2]
  unfold World.setCell
  dsimp only
  rw [Array.getElem?_modify, if_neg (by omega)]
theorem Touch.then {g : Nat} {w w1 w2 : World} (h : Touch g w w1) (hb : Below w1.heap.size w1 w2) (hg : g < w1.heap.size) : Touch g w w2 := h.trans (.of_below hb hg)
/-- Blocks that are there, but for g. -/
def Ne (g N : Nat) : Nat → Prop := fun b => b ≠ g ∧ b < N
theorem touch_keep {g : Nat} {w w' : World} (h : Touch g w w') : ∀ b o, Ne g w.heap.size b → w'.cell? ⟨b, o, none⟩ = w.cell? ⟨b, o, none⟩ := by
  intro b o hb
  by_cases hlt : b < g
  · exact h.below.cell (p := ⟨b, o, none⟩) hlt
  · exact h.cell (Nat.lt_of_le_of_ne (Nat.le_of_not_lt hlt) (fun e => hb.1 e.symm)) hb.2
/-- What a survey leaves. -/
def FitsRet (g : Nat) (b : Bool) (m c' d' : Nat) (w : World) (ee : Ending) (w' : World) : Prop := ee = .returned (.bool b) ∧ Touch g w w' ∧ ∃ c d, SurvAt w' g m c d ∧ (b = true → c = c' ∧ d = d')
theorem survey_empty (g m c e d : Nat) (A : Option Addr) (cap : Nat) (w : World) (nest : Int) (hS : SurvAt w g m c e) (hc : c ≤ m) (he : 4 - d ≤ e) (_hd : d ≤ 4) :
    Calls Tryz.prog 173 #[.pointer (some ⟨g, 0, none⟩), .slice A ([] : List St).length cap, .int .i64 nest] w (FitsRet g (([] : List St).all (formT d) && decide (c + sizeTL [] ≤ m)) m (c + sizeTL []) (max e (4 - d + nestTL [])) w) := by
  have HR := Lib.hid (show (([] : List St).all (formT d) && decide (c + sizeTL [] ≤ m)) = true by rw [Bool.and_eq_true]; exact ⟨rfl, decide_eq_true hc⟩)
  have HE := Lib.hid (And.intro hS he)
  clear hS hc he
  go_enter Tryz.func173, Tryz.ntmps173
  go_wp2_with fail
  go_ret
  exact ⟨by rw [HR.out]; rfl, Touch.refl _ _, c, e, HE.out.1, fun _ => ⟨rfl, by show e = max e (4 - d + 0); have := HE.out.2; omega⟩⟩
theorem survey_deep (g m c e : Nat) (ks : List St) (hne : ks ≠ []) (A : Option Addr) (cap : Nat) (w : World) (hS : SurvAt w g m c e) (hn : ks.length ≤ 1048577) :
    Calls Tryz.prog 173 #[.pointer (some ⟨g, 0, none⟩), .slice A ks.length cap, .int .i64 5] w (FitsRet g (ks.all (formT 0) && decide (c + sizeTL ks ≤ m)) m (c + sizeTL ks) (max e (4 - 0 + nestTL ks)) w) := by
  have HR := Lib.hid (show (ks.all (formT 0) && decide (c + sizeTL ks ≤ m)) = false by rw [all_bad (i := 0) (List.length_pos_iff.2 hne) rfl]; rfl)
  have hpos : 0 < ks.length := List.length_pos_iff.2 hne
  have q0 : ((ks.length : Int) == 0) = false := beq_no (by omega)
  have HE := Lib.hid hS
  clear hS
  go_enter Tryz.func173, Tryz.ntmps173
  go_wp2_with fail
  go_ret
  exact ⟨by rw [HR.out]; rfl, Touch.refl _ _, c, e, HE.out, fun h => by rw [HR.out] at h; cases h⟩
def SurvOk (d : Nat) : Prop := ∀ (ks : List St) (g m c e : Nat) (A : Option Addr) (cap : Nat) (w : World), SurvAt w g m c e → TBase g w → StS w (Ne g w.heap.size) ks A → bulkTL ks ≤ 1048577 → c ≤ m → c + sizeTL ks ≤ 4000000 → 4 - d ≤ e → m ≤ 9223372036854775807 →
  Calls Tryz.prog 173 #[.pointer (some ⟨g, 0, none⟩), .slice A ks.length cap, .int .i64 (5 - d : Int)] w (FitsRet g (ks.all (formT d) && decide (c + sizeTL ks ≤ m)) m (c + sizeTL ks) (max e (4 - d + nestTL ks)) w)
theorem survOk_zero : SurvOk 0 := by
  intro ks g m c e A cap w hS _ _ hbk hc _ he _
  by_cases hne : ks = []
  · subst hne
    exact survey_empty g m c e 0 A cap w _ hS hc he (by omega)
  · exact survey_deep g m c e ks hne A cap w hS (by have := length_le_bulkTL ks; omega)
end Go.Proofs.YtljdbjfbcjigaaaGreatDoor
