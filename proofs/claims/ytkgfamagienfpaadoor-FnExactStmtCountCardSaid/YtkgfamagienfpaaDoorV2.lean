/-
  Statements counted, nested; programs that are valid: the model.
-/
import Derived.Test.YtkgfamagienfpaaDoorV1
import Derived.Test.YtkgfamagienfpaaDoorP5
namespace Go.Proofs.YtkgfamagienfpaaDoor
open Go.RowKit
set_option maxRecDepth 100000

set_option maxHeartbeats 2000000 in
theorem l3Stmts_of (d : Nat) (ks : List St) (hbk : bulkTL ks ≤ 1048576) (A : Option Addr) (cap : Nat) (w : World) (hR : StS w (Lt w.heap.size) ks A)
    (H : ∀ (t : St) (v : Value) (w : World), StV w (Lt w.heap.size) t v → bulkT t ≤ 1048576 → Calls Tryd.prog 32 #[v, .int .i64 d] w (BoolB (formT d t) w)) :
    Calls Tryd.prog 55 #[.slice A ks.length cap, .int .i64 d] w (BoolB (ks.all (formT d)) w) := by
  have hn : ks.length ≤ 1048576 := by have := length_le_bulkTL ks; omega
  have HBK := Lib.hid hbk
  have HR := Lib.hid hR
  have HH := Lib.hid H
  clear hR hbk H
  go_enter Tryd.func55, Tryd.ntmps55
  go_wp2_with fail
  go_loopw [5] (fun i wr => ∃ k : Nat, k ≤ ks.length ∧ i = .int .i64 k ∧ allTo (formT d) ks k ∧ Below w.heap.size w wr) (fun i _ => ks.length - (intOf i).toNat)
  case atStart => exact ⟨0, Nat.zero_le _, rfl, allTo_zero _ _, Below.refl _ _⟩
  case round =>
    obtain ⟨k, hk, rfl, hall, hb⟩ := hrel
    have HKT := Lib.hid hall
    have hbs := hb.size
    clear hall
    by_cases hlk : k < ks.length
    · obtain ⟨b, o, rfl, hB, ⟨d0, d1⟩, ⟨A1, p1, d2, r1⟩, ⟨A2, p2, d3, r2⟩, A3, p3, d4, r3⟩ := (HR.out.on hb hbs).at_ hlk
      have CV := HH.out ks[k] _ wr ⟨A1, p1, A2, p2, A3, p3, rfl, r1, r2, r3⟩ (by have := bulkTL_mem (List.getElem_mem hlk); have := HBK.out; omega)
      clear r1 r2 r3
      generalize hkd : ks[k] = kid at *
      have HKD := Lib.hid hkd
      clear hkd
      cases hv : formT d kid
      · rw [hv] at CV
        have HN := Lib.hid (show ks.all (formT d) = false from all_bad hlk (by rw [HKD.out]; exact hv))
        clear hv HKD
        obtain ⟨op, s, a, bd, el⟩ := kid
        dsimp only [St.op, St.name, St.args, St.body, St.els] at d0 d1 d2 d3 d4 CV
        replace CV := Lib.hid CV
        go_wp2_with ((go_at_call 32; (with_reducible refine Calls.mono CV.out ?_); rintro ee w2 ⟨rfl, hb2⟩; have hb3 := hb.trans (hb2.mono hbs)))
        go_ret
        exact ⟨by rw [HN.out]; rfl, hb3⟩
      · rw [hv] at CV
        have HN := Lib.hid (allTo_succ HKT.out hlk (by rw [HKD.out]; exact hv))
        clear hv HKD
        obtain ⟨op, s, a, bd, el⟩ := kid
        dsimp only [St.op, St.name, St.args, St.body, St.els] at d0 d1 d2 d3 d4 CV
        replace CV := Lib.hid CV
        go_wp2_with ((go_at_call 32; (with_reducible refine Calls.mono CV.out ?_); rintro ee w2 ⟨rfl, hb2⟩; have hb3 := hb.trans (hb2.mono hbs)))
        go_roundw
        case rel => exact ⟨k + 1, by omega, by go_num, HN.out, hb3⟩
        case measure => simp only [intOf]; omega
    · obtain rfl : k = ks.length := by omega
      have HN := Lib.hid (all_of HKT.out)
      go_wp2_with fail
      go_ret
      exact ⟨by rw [HN.out]; rfl, hb⟩
theorem l3Stmt_any : ∀ (d : Nat) (_ : d ≤ 100) (t : St) (v : Value) (w : World), StV w (Lt w.heap.size) t v → bulkT t ≤ 1048576 → Calls Tryd.prog 32 #[v, .int .i64 d] w (BoolB (formT d t) w)
  | 0, _, t, v, w, hV, _ => l3Stmt_zero t v w hV
  | d + 1, hd, t, v, w, hV, hbk => by
    rw [show ((d + 1 : Nat) : Int) = (d : Int) + 1 by omega]
    exact l3Stmt_succ d (by omega) t v w hV hbk (fun ks A cap w hR hk => l3Stmts_of d ks hk A cap w hR (fun t v w h1 h2 => l3Stmt_any d (by omega) t v w h1 h2))
theorem l3Stmts_any (d : Nat) (hd : d ≤ 100) (ks : List St) (hbk : bulkTL ks ≤ 1048576) (A : Option Addr) (cap : Nat) (w : World) (hR : StS w (Lt w.heap.size) ks A) :
    Calls Tryd.prog 55 #[.slice A ks.length cap, .int .i64 d] w (BoolB (ks.all (formT d)) w) := l3Stmts_of d ks hbk A cap w hR (fun t v w h1 h2 => l3Stmt_any d hd t v w h1 h2)
set_option maxHeartbeats 1000000 in
theorem specStmtValid_any (t : St) (hl : bulkT t ≤ 1048576) (v : Value) (w : World) (hV : StV w (Lt w.heap.size) t v) :
    Calls Tryd.prog 11 #[v] w (BoolB (formT 4 t) w) := by
  have CB := fun W (h : Below w.heap.size w W) => Lib.hid (l3Stmt_any 4 (by omega) t v W (hV.on h h.size) hl)
  obtain ⟨A1, p1, A2, p2, A3, p3, rfl, _⟩ := hV
  have hb : Below w.heap.size w (w.alloc (.cells #[.int .i64 t.op, .string t.name, .slice A1 t.args.length p1, .slice A2 t.body.length p2, .slice A3 t.els.length p3] 31)) := (Below.refl _ _).alloc (Nat.le_refl _) _
  have hbs := hb.size
  have CB1 := Lib.hid (CB _ hb).out
  clear CB
  go_enter Tryd.func11, Tryd.ntmps11
  go_wp2_with fail
  (with_reducible refine Calls.mono CB1.out ?_)
  rintro ee w2 ⟨rfl, hb2⟩
  have hb3 := hb.trans (hb2.mono hbs)
  go_wp2_with fail
  go_ret
  exact ⟨rfl, hb3⟩
set_option maxHeartbeats 2000000 in
/-- A count of statements with those in them. -/
theorem l3Count_of (ks : List St) (hbk : bulkTL ks ≤ 1048576) (A : Option Addr) (cap : Nat) (w : World) (hR : StS w (Lt w.heap.size) ks A)
    (H : ∀ (ls : List St), sizeTL ls < sizeTL ks → ∀ (A : Option Addr) (cap : Nat) (w : World), StS w (Lt w.heap.size) ls A → bulkTL ls ≤ 1048576 → Calls Tryd.prog 61 #[.slice A ls.length cap] w (NumBelow (sizeTL ls) w)) :
    Calls Tryd.prog 61 #[.slice A ks.length cap] w (NumBelow (sizeTL ks) w) := by
  have hn : ks.length ≤ 1048576 := by have := length_le_bulkTL ks; omega
  have hsz : sizeTL ks ≤ 1048576 := by have := sizeTL_bulk ks; omega
  have HBK := Lib.hid hbk
  have HR := Lib.hid hR
  have HH := Lib.hid H
  clear hR hbk H
  go_enter Tryd.func61, Tryd.ntmps61
  go_wp2_with fail
  go_loopw [3, 4] (fun n i wr => ∃ k m : Nat, k ≤ ks.length ∧ i = .int .i64 k ∧ n = .int .i64 m ∧ m + k = ks.length + sizeTL (ks.take k) ∧ Below w.heap.size w wr) (fun _ i _ => ks.length - (intOf i).toNat)
  case atStart => exact ⟨0, ks.length, Nat.zero_le _, rfl, rfl, by rw [List.take_zero]; show _ = _ + 0; omega, Below.refl _ _⟩
  case round =>
    obtain ⟨k, m, hk, rfl, rfl, hm, hb⟩ := hrel
    have HM := Lib.hid hm
    have hbs := hb.size
    have htk := sizeTL_take_le ks k
    clear hm
    by_cases hlk : k < ks.length
    · have HT := Lib.hid (sizeTL_take hlk)
      have hg := sizeTL_get hlk
      have hkk := sizeT_kids ks[k]
      have htk1 := sizeTL_take_le ks (k + 1)
      have hbm := bulkTL_mem (List.getElem_mem hlk)
      have hbk2 := bulkT_kids ks[k]
      have hmm : m ≤ 2097152 := by have := HM.out; omega
      obtain ⟨b, o, rfl, hB, _, _, ⟨A2, p2, d3, r2⟩, A3, p3, d4, r3⟩ := (HR.out.on hb hbs).at_ hlk
      have hBr : b < wr.heap.size := hB
      have hbr := (Below.refl wr.heap.size wr).drew
      have CB := fun W (h : Below wr.heap.size wr W) => Lib.hid (HH.out ks[k].body (by omega) A2 p2 W (r2.on (w' := W) (B' := W.heap.size) h h.size) (by have := HBK.out; omega))
      have CE := fun W (h : Below wr.heap.size wr W) => Lib.hid (HH.out ks[k].els (by omega) A3 p3 W (r3.on (w' := W) (B' := W.heap.size) h h.size) (by have := HBK.out; omega))
      have hsum : 1 + sizeTL ks[k].body + sizeTL ks[k].els ≤ 1048576 := by omega
      rw [hkk] at HT
      clear r2 r3 hg hkk htk1 hbm hbk2 htk
      generalize ks[k].body.length = n2 at *
      generalize ks[k].els.length = n3 at *
      generalize sizeTL ks[k].body = s2 at *
      generalize sizeTL ks[k].els = s3 at *
      have CB1 := Lib.hid (CB _ hbr).out
      clear CB
      have hmr : (m : Int) + s2 ≤ 9223372036854775807 := by omega
      go_wp2_with fail
      go_region_held3 (fun u => u.cell? ⟨b, o + k * 5 + 3, none⟩ = some (.slice A2 n2 p2) ∧ u.cell? ⟨b, o + k * 5 + 4, none⟩ = some (.slice A3 n3 p3)) (go_keep)
        (first
          | (go_at_call 61; (with_reducible refine Calls.mono CB1.out ?_); rintro ee w2 ⟨rfl, hb2⟩; have hb3 := hbr.trans (hb2.mono hbr.size); have g3 := (hb2.cell (p := ⟨b, o + k * 5 + 3, none⟩) hBr).trans d3; have g4 := (hb2.cell (p := ⟨b, o + k * 5 + 4, none⟩) hBr).trans d4; have CE1 := Lib.hid (CE _ hb3).out)
          | (go_at_call 61; (with_reducible refine Calls.mono CE1.out ?_); rintro ee w3 ⟨rfl, hb4⟩; have hb5 := hb3.trans (hb4.mono hb3.size); have q3 := (hb4.cell (p := ⟨b, o + k * 5 + 3, none⟩) (Nat.lt_of_lt_of_le hBr hb3.size)).trans g3; have q4 := (hb4.cell (p := ⟨b, o + k * 5 + 4, none⟩) (Nat.lt_of_lt_of_le hBr hb3.size)).trans g4))
      all_goals
        have hb6 := hb.trans (hb5.mono hbs)
        go_wp2_with fail
        go_roundw
        case rel => exact ⟨k + 1, m + s2 + s3, by omega, by go_num, by rw [IntWalk.i64_in ((m : Int) + s2) (by omega), IntWalk.i64_in ((m : Int) + s2 + s3) (by omega)]; go_num, by rw [HT.out]; have := HM.out; omega, hb6⟩
        case measure => simp only [intOf]; omega
    · obtain rfl : k = ks.length := by omega
      go_wp2_with fail
      go_ret
      exact ⟨ret_int' (by have := HM.out; rw [List.take_length] at this; omega), hb⟩
theorem l3Count_any : ∀ (N : Nat) (ks : List St) (_ : sizeTL ks ≤ N) (A : Option Addr) (cap : Nat) (w : World), StS w (Lt w.heap.size) ks A → bulkTL ks ≤ 1048576 → Calls Tryd.prog 61 #[.slice A ks.length cap] w (NumBelow (sizeTL ks) w)
  | 0, ks, h, A, cap, w, hR, hb => l3Count_of ks hb A cap w hR (fun ls hl => by omega)
  | N + 1, ks, h, A, cap, w, hR, hb => l3Count_of ks hb A cap w hR (fun ls hl A cap w h1 h2 => l3Count_any N ls (by omega) A cap w h1 h2)
end Go.Proofs.YtkgfamagienfpaaDoor
