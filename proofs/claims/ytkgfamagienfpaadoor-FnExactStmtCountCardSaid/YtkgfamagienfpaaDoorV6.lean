/-
  What a form asks of a statement: the program.
-/
import Derived.Test.YtkgfamagienfpaaDoorV5
namespace Go.Proofs.YtkgfamagienfpaaDoor
open Go.RowKit
set_option maxRecDepth 100000

theorem size0 {s : ByteArray} : s.size = 0 ↔ s = ⟨#[]⟩ := by
  constructor
  · intro h
    obtain ⟨d⟩ := s
    have : d = #[] := Array.eq_empty_of_size_eq_zero h
    rw [this]
  · rintro rfl; rfl
set_option maxHeartbeats 1000000 in
theorem fitsName_any (op : Int) (s : ByteArray) (w : World) (T : Tabs w) :
    Calls Tryd.prog 74 #[formV op, .string s] w (BoolB (nameFit op s) w) := by
  unfold formV
  have hb : Below w.heap.size w (w.alloc (.cells #[.int .i64 op, .string (fKey op), .bool (nmB op), .int .i64 (argN op : Int), .bool (clB op), .bool (wbB op), .bool (weB op)] 92)) := (Below.refl _ _).alloc (Nat.le_refl _) _
  have CN0 := implIsName_any s _ (T.below hb)
  have hbs := hb.size
  clear T
  generalize fKey op = key at *
  generalize (argN op : Int) = ar at *
  generalize clB op = cl at *
  generalize wbB op = wb at *
  generalize weB op = we at *
  have HQ := Lib.hid (show nameFit op s = if nmB op then nameB s else decide (s.size = 0) by
    unfold nameFit nmB
    by_cases h : op = 1 ∨ op = 2
    · rw [if_pos h, if_pos (by rw [decide_eq_true h])]
    · rw [if_neg h, if_neg (by rw [decide_eq_false h]; simp)])
  generalize nameFit op s = res at *
  cases hn : nmB op
  · rw [hn] at HQ hb hbs
    clear hn CN0
    by_cases he : s = ⟨#[]⟩
    · have HN := Lib.hid (show res = true by rw [HQ.out, if_neg (by simp), decide_eq_true (size0.2 he)])
      clear HQ
      subst he
      go_enter Tryd.func74, Tryd.ntmps74
      go_wp2_with fail
      go_ret
      exact ⟨by rw [HN.out]; rfl, hb⟩
    · have q1 := str_eq_false he
      obtain ⟨e1, e2⟩ := full_str he
      have HN := Lib.hid (show res = false by rw [HQ.out, if_neg (by simp), decide_eq_false (fun h => he (size0.1 h))])
      clear he HQ
      go_enter Tryd.func74, Tryd.ntmps74
      go_wp2_with fail
      go_ret
      exact ⟨by rw [HN.out]; rfl, hb⟩
  · rw [hn] at HQ hb hbs CN0
    have HN := Lib.hid (show res = nameB s by rw [HQ.out, if_pos rfl])
    clear hn HQ
    have CN := Lib.hid CN0
    clear CN0
    go_enter Tryd.func74, Tryd.ntmps74
    go_wp2_with fail
    (with_reducible refine Calls.mono CN.out ?_)
    rintro ee w2 ⟨rfl, rfl⟩
    go_wp2_with fail
    go_ret
    exact ⟨by rw [HN.out]; rfl, hb⟩
set_option maxHeartbeats 2000000 in
theorem fitsArgs_any (op : Int) (al : List E) (A : Option Addr) (cap : Nat) (w : World) (hR : PdS w (Lt w.heap.size) al A) (hbk : bulkL al ≤ 1048576) (T : Tabs w) (G : Sgn w) :
    Calls Tryd.prog 75 #[formV op, .slice A al.length cap] w (BoolB (argsFit op al) w) := by
  unfold formV
  have BF := Lib.hid (BxL.new w [.int .i64 op, .string (fKey op), .bool (nmB op), .int .i64 (argN op : Int), .bool (clB op), .bool (wbB op), .bool (weB op)] 92)
  have hlt : w.heap.size < (w.alloc (.cells #[.int .i64 op, .string (fKey op), .bool (nmB op), .int .i64 (argN op : Int), .bool (clB op), .bool (wbB op), .bool (weB op)] 92)).heap.size := by rw [World.size_alloc]; omega
  have hb : Below w.heap.size w (w.alloc (.cells #[.int .i64 op, .string (fKey op), .bool (nmB op), .int .i64 (argN op : Int), .bool (clB op), .bool (wbB op), .bool (weB op)] 92)) := (Below.refl _ _).alloc (Nat.le_refl _) _
  have e1 : w.alloc (.cells [.int .i64 op, .string (fKey op), .bool (nmB op), .int .i64 (argN op : Int), .bool (clB op), .bool (wbB op), .bool (weB op)].toArray 92) = w.alloc (.cells #[.int .i64 op, .string (fKey op), .bool (nmB op), .int .i64 (argN op : Int), .bool (clB op), .bool (wbB op), .bool (weB op)] 92) := rfl
  rw [e1] at BF
  clear e1
  have hn : al.length ≤ 1048576 := by have := length_le_sizeL al; have := sizeL_bulk al; omega
  have HBK := Lib.hid hbk
  have HR := Lib.hid hR
  have TG := Lib.hid (And.intro T G)
  clear hR hbk T G
  have HQ := Lib.hid (show argsFit op al = (decide (al.length = argN op) && al.all (argOk op)) from rfl)
  have HOK := Lib.hid (show ∀ e, argOk op e = (validE e && (!clB op || decide (e.op = 13))) by
    intro e
    unfold argOk clB
    congr 2
    by_cases h : op = 8 <;> simp [h])
  generalize argsFit op al = res at *
  generalize fKey op = key at *
  generalize nmB op = nm at *
  generalize wbB op = wb at *
  generalize weB op = we at *
  generalize argN op = ar at *
  generalize clB op = cl at *
  by_cases hl : al.length = ar
  · subst hl
    have HQ2 := Lib.hid (show res = al.all (argOk op) by rw [HQ.out]; simp)
    clear HQ
    go_enter Tryd.func75, Tryd.ntmps75
    go_upto_region 1 with (fail)
    generalize w.alloc (.cells #[.int .i64 op, .string key, .bool nm, .int .i64 (al.length : Int), .bool cl, .bool wb, .bool we] 92) = wa at *
    have c3 := BF.out 3 _ rfl
    have q0 : ((al.length : Int) != (al.length : Int)) = false := by simp
    go_wp2_with fail
    clear q0 c3
    go_loopw [14] (fun i wr => ∃ k : Nat, k ≤ al.length ∧ i = .int .i64 k ∧ allTo (argOk op) al k ∧ Below wa.heap.size wa wr) (fun i _ => al.length - (intOf i).toNat)
    case atStart => exact ⟨0, Nat.zero_le _, rfl, allTo_zero _ _, Below.refl _ _⟩
    case round =>
      obtain ⟨k, hk, rfl, hall, hbr⟩ := hrel
      have HKT := Lib.hid hall
      have hbw := hb.trans (hbr.mono (Nat.le_of_lt hlt))
      have hbs := hbw.size
      have BR := Lib.hid (BF.out.below hbr hlt)
      have hltr := Nat.lt_of_lt_of_le hlt hbr.size
      clear hall
      by_cases hlk : k < al.length
      · obtain ⟨b, o, rfl, hB, ⟨d0, d1, d2⟩, A', cap', d3, hr'⟩ := (HR.out.on hbw hbs).lt_rd.at_ hlk
        have hsz : bulkE al[k] ≤ 1048576 := by have := bulkL_mem (List.getElem_mem hlk); have := HBK.out; omega
        have hal := (Below.refl wr.heap.size wr).alloc (Nat.le_refl _) (.cells #[.int .i64 al[k].op, .int .i64 al[k].n, .string al[k].name, .slice A' al[k].kids.length cap'] 53)
        have hbx := hbw.trans (hal.mono hbs)
        have CV := implExprValid_any al[k] A' cap' _ (hr'.on hal hal.size) hsz (TG.out.1.below hbx) (TG.out.2.below hbx)
        have HOK2 := Lib.hid (HOK.out al[k])
        unfold exV at CV
        clear hr' hsz
        generalize hkd : al[k] = kid at *
        have HKD := Lib.hid hkd
        clear hkd
        have BX := Lib.hid (BxL.new wr [.int .i64 kid.op, .int .i64 kid.n, .string kid.name, .slice A' kid.kids.length cap'] 53)
        have e2 : wr.alloc (.cells [.int .i64 kid.op, .int .i64 kid.n, .string kid.name, .slice A' kid.kids.length cap'].toArray 53) = wr.alloc (.cells #[.int .i64 kid.op, .int .i64 kid.n, .string kid.name, .slice A' kid.kids.length cap'] 53) := rfl
        rw [e2] at BX
        clear e2
        have hlx : wr.heap.size < (wr.alloc (.cells #[.int .i64 kid.op, .int .i64 kid.n, .string kid.name, .slice A' kid.kids.length cap'] 53)).heap.size := by rw [World.size_alloc]; omega
        have BR2 := Lib.hid (BR.out.below hal hltr)
        have hbr2 := hbr.trans (hal.mono hbr.size)
        clear hal BR
        go_upto_region 6 with (fail)
        generalize wr.alloc (.cells #[.int .i64 kid.op, .int .i64 kid.n, .string kid.name, .slice A' kid.kids.length cap'] 53) = wx at *
        have hltx : w.heap.size < wx.heap.size := Nat.lt_of_lt_of_le hltr (Nat.le_of_lt hlx)
        have x0 := BX.out 0 _ rfl
        have x1 := BX.out 1 _ rfl
        have x2 := BX.out 2 _ rfl
        have x3 := BX.out 3 _ rfl
        clear d0 d1 d2 d3 hbr hbw
        cases hv : validE kid
        · rw [hv] at CV
          have HN := Lib.hid (show res = false by rw [HQ2.out, all_bad (p := argOk op) hlk (by rw [HKD.out, HOK2.out, hv]; rfl)])
          clear hv HOK2
          replace CV := Lib.hid CV
          go_wp2_with ((go_at_call 86; (with_reducible refine Calls.mono CV.out ?_); rintro ee w2 ⟨rfl, hb2⟩; have hb3 := hbx.trans (hb2.mono hbx.size)))
          go_ret
          exact ⟨by rw [HN.out]; rfl, hb3⟩
        · rw [hv] at CV
          replace CV := Lib.hid CV
          cases cl
          · have HN := Lib.hid (allTo_succ HKT.out hlk (by rw [HKD.out, HOK2.out, hv]; rfl))
            clear hv HOK2
            go_wp2_with fail
            (with_reducible refine Calls.mono CV.out ?_)
            rintro ee w2 ⟨rfl, hb2⟩
            have hb3 := hbr2.trans (hb2.mono hbr2.size)
            have g4 := (BR2.out.below hb2 hltx) 4 _ rfl
            go_wp2_with fail
            go_roundw
            case rel => exact ⟨k + 1, by omega, by go_num, HN.out, hb3⟩
            case measure => simp only [intOf]; omega
          · by_cases h13 : kid.op = 13
            · have HN := Lib.hid (allTo_succ HKT.out hlk (by rw [HKD.out, HOK2.out, hv, decide_eq_true h13]; rfl))
              have b13 := beq_yes h13
              have b14 : (kid.op != 13) = false := by rw [bne, b13]; rfl
              clear hv HOK2 h13
              go_wp2_with fail
              (with_reducible refine Calls.mono CV.out ?_)
              rintro ee w2 ⟨rfl, hb2⟩
              have hb3 := hbr2.trans (hb2.mono hbr2.size)
              have g4 := (BR2.out.below hb2 hltx) 4 _ rfl
              have y0 := (BX.out.below hb2 hlx) 0 _ rfl
              go_wp2_with fail
              go_roundw
              case rel => exact ⟨k + 1, by omega, by go_num, HN.out, hb3⟩
              case measure => simp only [intOf]; omega
            · have HN := Lib.hid (show res = false by rw [HQ2.out, all_bad (p := argOk op) hlk (by rw [HKD.out, HOK2.out, hv, decide_eq_false h13]; rfl)])
              have b13 := beq_no h13
              have b14 : (kid.op != 13) = true := by rw [bne, b13]; rfl
              clear hv HOK2 h13
              go_wp2_with fail
              (with_reducible refine Calls.mono CV.out ?_)
              rintro ee w2 ⟨rfl, hb2⟩
              have hb3 := hbx.trans (hb2.mono hbx.size)
              have g4 := (BR2.out.below hb2 hltx) 4 _ rfl
              have y0 := (BX.out.below hb2 hlx) 0 _ rfl
              go_wp2_with fail
              go_ret
              exact ⟨by rw [HN.out]; rfl, hb3⟩
      · obtain rfl : k = al.length := by omega
        have HN := Lib.hid (show res = true by rw [HQ2.out, all_of HKT.out])
        go_wp2_with fail
        go_ret
        exact ⟨by rw [HN.out]; rfl, hbw⟩
  · have q0 : ((al.length : Int) == (ar : Int)) = false := beq_no (by omega)
    have q1 : ((al.length : Int) != (ar : Int)) = true := by rw [bne, q0]; rfl
    have HN := Lib.hid (show res = false by rw [HQ.out, decide_eq_false hl]; rfl)
    clear hl HQ
    go_enter Tryd.func75, Tryd.ntmps75
    go_wp2_with fail
    go_ret
    exact ⟨by rw [HN.out]; rfl, hb⟩
end Go.Proofs.YtkgfamagienfpaaDoor
