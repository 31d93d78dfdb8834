/-
  Programs that are valid, their statements counted, nested: the model.
-/
import Derived.Test.YtkgfamagienfpaaDoorV2
namespace Go.Proofs.YtkgfamagienfpaaDoor
open Go.RowKit
set_option maxRecDepth 100000

set_option maxHeartbeats 2000000 in
theorem l3Nest_of (ks : List St) (hbk : bulkTL ks ≤ 1048576) (A : Option Addr) (cap : Nat) (w : World) (hR : StS w (Lt w.heap.size) ks A)
    (H : ∀ (ls : List St), sizeTL ls < sizeTL ks → ∀ (A : Option Addr) (cap : Nat) (w : World), StS w (Lt w.heap.size) ls A → bulkTL ls ≤ 1048576 → Calls Tryd.prog 45 #[.slice A ls.length cap] w (NumBelow (nestTL ls) w)) :
    Calls Tryd.prog 45 #[.slice A ks.length cap] w (NumBelow (nestTL ks) w) := by
  have hn : ks.length ≤ 1048576 := by have := length_le_bulkTL ks; omega
  have hsz : sizeTL ks ≤ 1048576 := by have := sizeTL_bulk ks; omega
  have HBK := Lib.hid hbk
  have HR := Lib.hid hR
  have HH := Lib.hid H
  clear hR hbk H
  go_enter Tryd.func45, Tryd.ntmps45
  go_wp2_with fail
  go_loopw [3, 4] (fun n i wr => ∃ k : Nat, k ≤ ks.length ∧ i = .int .i64 k ∧ n = .int .i64 ((nestTL (ks.take k) : Nat) : Int) ∧ Below w.heap.size w wr) (fun _ i _ => ks.length - (intOf i).toNat)
  case atStart => exact ⟨0, Nat.zero_le _, rfl, rfl, Below.refl _ _⟩
  case round =>
    obtain ⟨k, hk, rfl, rfl, hb⟩ := hrel
    have hbs := hb.size
    have htk := nestTL_take_le ks k
    have hle := nestTL_le ks
    by_cases hlk : k < ks.length
    · have HT := Lib.hid (nestTL_take hlk)
      have hg := sizeTL_get hlk
      have hkk := sizeT_kids ks[k]
      have hnk := nestT_kids ks[k]
      have hn2 := nestTL_le ks[k].body
      have hn3 := nestTL_le ks[k].els
      have hbm := bulkTL_mem (List.getElem_mem hlk)
      have hbk2 := bulkT_kids ks[k]
      obtain ⟨b, o, rfl, hB, _, _, ⟨A2, p2, d3, r2⟩, A3, p3, d4, r3⟩ := (HR.out.on hb hbs).at_ hlk
      have hBr : b < wr.heap.size := hB
      have hbr := (Below.refl wr.heap.size wr).drew
      have CB := fun W (h : Below wr.heap.size wr W) => Lib.hid (HH.out ks[k].body (by omega) A2 p2 W (r2.on (w' := W) (B' := W.heap.size) h h.size) (by have := HBK.out; omega))
      have CE := fun W (h : Below wr.heap.size wr W) => Lib.hid (HH.out ks[k].els (by omega) A3 p3 W (r3.on (w' := W) (B' := W.heap.size) h h.size) (by have := HBK.out; omega))
      rw [hnk] at HT
      have hs2 : nestTL ks[k].body ≤ 1048576 := by omega
      have hs3 : nestTL ks[k].els ≤ 1048576 := by omega
      have hm1 : nestTL (ks.take k) ≤ 1048576 := by omega
      clear r2 r3 hg hkk hbm hbk2 htk hle hnk hn2 hn3
      generalize ks[k].body.length = n2 at *
      generalize ks[k].els.length = n3 at *
      generalize nestTL ks[k].body = s2 at *
      generalize nestTL ks[k].els = s3 at *
      generalize hst : nestTL (ks.take k) = m at *
      have CB1 := Lib.hid (CB _ hbr).out
      clear CB
      go_wp2_with fail
      go_region_held3 (fun u => u.cell? ⟨b, o + k * 5 + 3, none⟩ = some (.slice A2 n2 p2) ∧ u.cell? ⟨b, o + k * 5 + 4, none⟩ = some (.slice A3 n3 p3)) (go_keep)
        (first
          | (go_at_call 45; (with_reducible refine Calls.mono CB1.out ?_); rintro ee w2 ⟨rfl, hb2⟩; have hb3 := hbr.trans (hb2.mono hbr.size); have g3 := (hb2.cell (p := ⟨b, o + k * 5 + 3, none⟩) hBr).trans d3; have g4 := (hb2.cell (p := ⟨b, o + k * 5 + 4, none⟩) hBr).trans d4; have CE1 := Lib.hid (CE _ hb3).out)
          | (go_at_call 45; (with_reducible refine Calls.mono CE1.out ?_); rintro ee w3 ⟨rfl, hb4⟩; have hb5 := hb3.trans (hb4.mono hb3.size); have q3 := (hb4.cell (p := ⟨b, o + k * 5 + 3, none⟩) (Nat.lt_of_lt_of_le hBr hb3.size)).trans g3; have q4 := (hb4.cell (p := ⟨b, o + k * 5 + 4, none⟩) (Nat.lt_of_lt_of_le hBr hb3.size)).trans g4))
      all_goals
        have hb6 := hb.trans (hb5.mono hbs)
        go_wp2_with fail
        go_roundw
        case rel =>
          refine ⟨k + 1, by omega, by go_num, ?_, hb6⟩
          have e : (if s2 < s3 then (s3 : Int) else (s2 : Int)) = ((max s2 s3 : Nat) : Int) := by split <;> omega
          rw [HT.out, e, IntWalk.i64_in _ (by omega)]
          congr 1
          split <;> omega
        case measure => simp only [intOf]; omega
    · obtain rfl : k = ks.length := by omega
      go_wp2_with fail
      go_ret
      exact ⟨by rw [List.take_length]; rfl, hb⟩
theorem l3Nest_any : ∀ (N : Nat) (ks : List St) (_ : sizeTL ks ≤ N) (A : Option Addr) (cap : Nat) (w : World), StS w (Lt w.heap.size) ks A → bulkTL ks ≤ 1048576 → Calls Tryd.prog 45 #[.slice A ks.length cap] w (NumBelow (nestTL ks) w)
  | 0, ks, h, A, cap, w, hR, hb => l3Nest_of ks hb A cap w hR (fun ls hl => by omega)
  | N + 1, ks, h, A, cap, w, hR, hb => l3Nest_of ks hb A cap w hR (fun ls hl A cap w h1 h2 => l3Nest_any N ls (by omega) A cap w h1 h2)
theorem fnB_ask (f : Fu) : fnB f = (f.params.all nameB && (nameB f.name && (decide (f.params.length ≤ 3) && f.body.all (formT 4)))) := by
  unfold fnB headF
  ac_rfl
theorem box3 (w : World) (v0 v1 v2 : Value) (t : TypeId) :
    (w.alloc (.cells #[v0, v1, v2] t)).cell? ⟨w.heap.size, 0, none⟩ = some v0 ∧ (w.alloc (.cells #[v0, v1, v2] t)).cell? ⟨w.heap.size, 1, none⟩ = some v1 ∧ (w.alloc (.cells #[v0, v1, v2] t)).cell? ⟨w.heap.size, 2, none⟩ = some v2 ∧ w.heap.size < (w.alloc (.cells #[v0, v1, v2] t)).heap.size ∧ Below w.heap.size w (w.alloc (.cells #[v0, v1, v2] t)) :=
  ⟨alloc_cell w _ _ _ 0, alloc_cell w _ _ _ 1, alloc_cell w _ _ _ 2, by rw [World.size_alloc]; omega, (Below.refl _ _).alloc (Nat.le_refl _) _⟩
theorem box1 (w : World) (v0 : Value) (t : TypeId) :
    (w.alloc (.cells #[v0] t)).cell? ⟨w.heap.size, 0, none⟩ = some v0 ∧ w.heap.size < (w.alloc (.cells #[v0] t)).heap.size ∧ Below w.heap.size w (w.alloc (.cells #[v0] t)) :=
  ⟨alloc_cell w _ _ _ 0, by rw [World.size_alloc]; omega, (Below.refl _ _).alloc (Nat.le_refl _) _⟩
set_option maxHeartbeats 2000000 in
theorem l3Fn_any (f : Fu) (hbk : bulkF f ≤ 1048576) (v : Value) (w : World) (hV : FuV w (Lt w.heap.size) f v) :
    Calls Tryd.prog 40 #[v] w (BoolB (fnB f) w) := by
  obtain ⟨A1, p1, A2, p2, rfl, r1, r2⟩ := hV
  have HF := Lib.hid (fnB_ask f)
  generalize fnB f = res at *
  unfold bulkF at hbk
  obtain ⟨s, a, bd⟩ := f
  dsimp only at *
  have hla := length_le_bulkS a
  obtain ⟨c0, c1, c2, hlt, hb⟩ := box3 w (.string s) (.slice A1 a.length p1) (.slice A2 bd.length p2) 51
  have R1 := fun W h => Lib.hid (r1.on (w' := W) (B' := W.heap.size) h h.size)
  have CB := fun W h => Lib.hid (l3Stmts_any 4 (by omega) bd (by omega) A2 p2 W (r2.on (w' := W) (B' := W.heap.size) h h.size))
  have CN := fun W => Lib.hid (specIsName_any s W (by unfold maxLen; omega))
  have HBK := Lib.hid hbk
  have hn : a.length ≤ 1048576 := by omega
  clear r1 r2 hbk hla
  go_enter Tryd.func40, Tryd.ntmps40
  go_wp2_with fail
  generalize w.alloc (.cells #[.string s, .slice A1 a.length p1, .slice A2 bd.length p2] 51) = wa at *
  go_loopw [3] (fun i wr => ∃ k : Nat, k ≤ a.length ∧ i = .int .i64 k ∧ allTo nameB a k ∧ Below wa.heap.size wa wr) (fun i _ => a.length - (intOf i).toNat)
  case atStart => exact ⟨0, Nat.zero_le _, rfl, allTo_zero _ _, Below.refl _ _⟩
  case round =>
    obtain ⟨k, hk, rfl, hall, hbr⟩ := hrel
    have HKT := Lib.hid hall
    have hbw := hb.trans (hbr.mono (Nat.le_of_lt hlt))
    have hbs := hbw.size
    have g1 := (hbr.cell (p := ⟨w.heap.size, 1, none⟩) hlt).trans c1
    clear hall
    by_cases hlk : k < a.length
    · obtain ⟨b, o, rfl, hB, d0⟩ := (R1 _ hbw).out.at_ hlk
      have hsz : a[k].size ≤ maxLen := by have := bulkS_mem (List.getElem_mem hlk); have := HBK.out; unfold maxLen; omega
      clear CN CB R1
      have CN := specIsName_any a[k] wr hsz
      generalize hkd : a[k] = kid at *
      have HKD := Lib.hid hkd
      clear hkd hsz
      cases hv : nameB kid
      · rw [hv] at CN
        have HN := Lib.hid (show res = false by rw [HF.out, all_bad (p := nameB) hlk (by rw [HKD.out]; exact hv)]; rfl)
        clear hv
        replace CN := Lib.hid CN
        go_wp2_with ((go_at_call 53; (with_reducible refine Calls.mono CN.out ?_); rintro ee w2 ⟨rfl, hb2⟩; have hb3 := hbw.trans (hb2.mono hbs)))
        go_ret
        exact ⟨by rw [HN.out]; rfl, hb3⟩
      · rw [hv] at CN
        have HN := Lib.hid (allTo_succ HKT.out hlk (by rw [HKD.out]; exact hv))
        clear hv
        replace CN := Lib.hid CN
        go_wp2_with ((go_at_call 53; (with_reducible refine Calls.mono CN.out ?_); rintro ee w2 ⟨rfl, hb2⟩; have hb3 := hbr.trans (hb2.mono hbr.size)))
        go_roundw
        case rel => exact ⟨k + 1, by omega, by go_num, HN.out, hb3⟩
        case measure => simp only [intOf]; omega
    · obtain rfl : k = a.length := by omega
      have H1 := Lib.hid (all_of HKT.out)
      have g0 := (hbr.cell (p := ⟨w.heap.size, 0, none⟩) hlt).trans c0
      have g2 := (hbr.cell (p := ⟨w.heap.size, 2, none⟩) hlt).trans c2
      have hltr := Nat.lt_of_lt_of_le hlt hbr.size
      clear c0 c1 c2 hbr HKT hb hlt hk hlk R1
      have CN1 := (CN wr).out
      clear CN
      cases h2 : nameB s
      · rw [h2] at CN1
        have HN := Lib.hid (show res = false by rw [HF.out, H1.out, h2]; rfl)
        clear h2 CB
        replace CN1 := Lib.hid CN1
        go_wp2_with ((go_at_call 53; (with_reducible refine Calls.mono CN1.out ?_); rintro ee w2 ⟨rfl, hb2⟩; have hb3 := hbw.trans (hb2.mono hbs)))
        go_ret
        exact ⟨by rw [HN.out]; rfl, hb3⟩
      · rw [h2] at CN1
        have H2 := Lib.hid h2
        clear h2
        replace CN1 := Lib.hid CN1
        by_cases h3 : (a.length : Int) ≤ 3
        · have HN := Lib.hid (show res = bd.all (formT 4) by rw [HF.out, H1.out, H2.out, decide_eq_true (p := a.length ≤ 3) (by omega)]; rfl)
          go_wp2_with fail
          (with_reducible refine Calls.mono CN1.out ?_)
          rintro ee w2 ⟨rfl, hb2⟩
          have hb3 := hbw.trans (hb2.mono hbs)
          have q1 := (hb2.cell (p := ⟨w.heap.size, 1, none⟩) hltr).trans g1
          have q2 := (hb2.cell (p := ⟨w.heap.size, 2, none⟩) hltr).trans g2
          have CB1 := Lib.hid (CB _ hb3).out
          clear CB
          generalize bd.all (formT 4) = ea at *
          cases ea
          all_goals
            go_wp2_with fail
            (with_reducible refine Calls.mono CB1.out ?_)
            rintro ee w4 ⟨rfl, hb4⟩
            have hb5 := hb3.trans (hb4.mono hb3.size)
            go_wp2_with fail
            go_ret
            exact ⟨by rw [HN.out]; rfl, hb5⟩
        · have HN := Lib.hid (show res = false by rw [HF.out, H1.out, H2.out, decide_eq_false (p := a.length ≤ 3) (by omega)]; rfl)
          clear CB
          go_wp2_with fail
          (with_reducible refine Calls.mono CN1.out ?_)
          rintro ee w2 ⟨rfl, hb2⟩
          have hb3 := hbw.trans (hb2.mono hbs)
          have q1 := (hb2.cell (p := ⟨w.heap.size, 1, none⟩) hltr).trans g1
          go_wp2_with fail
          go_ret
          exact ⟨by rw [HN.out]; rfl, hb3⟩
set_option maxHeartbeats 2000000 in
theorem l3All_any (p : List Fu) (hbk : bulkFL p ≤ 1048576) (v : Value) (w : World) (hV : PrV w (Lt w.heap.size) p v) :
    Calls Tryd.prog 41 #[v] w (NumBelow (countP p) w) := by
  obtain ⟨A, c, rfl, hR⟩ := hV
  have hn : p.length ≤ 1048576 := by have := length_le_bulkFL p; omega
  have hcp : countP p ≤ 1048576 := by have := countP_bulk p; omega
  have HBK := Lib.hid hbk
  have HR := Lib.hid hR
  clear hR hbk
  obtain ⟨c0, hlt, hb⟩ := box1 w (.slice A p.length c) 42
  go_enter Tryd.func41, Tryd.ntmps41
  go_wp2_with fail
  generalize w.alloc (.cells #[.slice A p.length c] 42) = wa at *
  go_loopw [3, 4] (fun m i wr => ∃ k : Nat, k ≤ p.length ∧ i = .int .i64 k ∧ m = .int .i64 ((countP (p.take k) : Nat) : Int) ∧ Below wa.heap.size wa wr) (fun _ i _ => p.length - (intOf i).toNat)
  case atStart => exact ⟨0, Nat.zero_le _, rfl, rfl, Below.refl _ _⟩
  case round =>
    obtain ⟨k, hk, rfl, rfl, hbr⟩ := hrel
    have hbw := hb.trans (hbr.mono (Nat.le_of_lt hlt))
    have hbs := hbw.size
    have g0 := (hbr.cell (p := ⟨w.heap.size, 0, none⟩) hlt).trans c0
    have htk := countP_take_le p k
    by_cases hlk : k < p.length
    · have HT := Lib.hid (countP_take hlk)
      have htk1 := countP_take_le p (k + 1)
      have hsum : countP (p.take k) + sizeTL p[k].body ≤ 1048576 := by rw [← HT.out]; omega
      have hbm := bulkFL_mem (List.getElem_mem hlk)
      have hbf : bulkF p[k] = p[k].name.size + bulkS p[k].params + bulkTL p[k].body := rfl
      obtain ⟨b, o, rfl, hB, _, _, A2, p2, d2, r2⟩ := (HR.out.on hbw hbs).at_ hlk
      have CK := Lib.hid (l3Count_any _ p[k].body (Nat.le_refl _) A2 p2 wr r2 (by have := HBK.out; omega))
      clear r2 htk1 hbm hbf htk
      generalize p[k].body.length = n2 at *
      generalize sizeTL p[k].body = s2 at *
      generalize countP (p.take k) = m at *
      go_wp2_with ((go_at_call 61; (with_reducible refine Calls.mono CK.out ?_); rintro ee w2 ⟨rfl, hb2⟩; have hb3 := hbr.trans (hb2.mono hbr.size)))
      go_roundw
      case rel => exact ⟨k + 1, by omega, by go_num, by rw [HT.out]; go_num, hb3⟩
      case measure => simp only [intOf]; omega
    · obtain rfl : k = p.length := by omega
      go_wp2
      go_ret
      exact ⟨by rw [List.take_length]; rfl, hbw⟩
end Go.Proofs.YtkgfamagienfpaaDoor
