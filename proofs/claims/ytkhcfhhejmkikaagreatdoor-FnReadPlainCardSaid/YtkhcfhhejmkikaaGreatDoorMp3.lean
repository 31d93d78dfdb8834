/-
  For every stream of bytes what ReadExpr of the document's chapter 2 reads of the drawn text is written plainly: in no more words, and read back the same. Conditions: the program's tables and the library's variables stand as their text lays them (tied by the card).
-/
import Derived.Test.YtkhcfhhejmkikaaGreatDoorMg18
import Derived.Test.YtkhcfhhejmkikaaGreatDoorMg22
import Derived.Test.YtkhcfhhejmkikaaGreatDoorMg34
import Derived.Test.YtkhcfhhejmkikaaGreatDoorMg36
import Derived.Test.YtkhcfhhejmkikaaGreatDoorMg4
import Derived.Test.YtkhcfhhejmkikaaGreatDoorMg7
import Derived.Test.YtkhcfhhejmkikaaGreatDoorMg8
import Derived.Test.YtkhcfhhejmkikaaGreatDoorMp2
import Derived.Test.YtkhcfhhejmkikaaGreatDoorRows
import Derived.ShapedOpen
import Derived.Test.YtkhcfhhejmkikaaGreatDoorCards
import Derived.Test.YtkhcfhhejmkikaaGreatDoorTie
import Derived.SevenTiedAt
namespace Go.Proofs.YtkhcfhhejmkikaaGreatDoor
open Go.RowKit
set_option maxRecDepth 100000

theorem readF_bulkP (s : ByteArray) : bulkE (readF s).1 ≤ 3600 := by
  have hlen := cutRes_len s
  cases hcr : cutRes s with
  | mk ws ok =>
  rw [hcr] at hlen
  have hlen' : ws.length ≤ 600 := hlen
  have hn : bulkE E.none ≤ 3600 := by decide
  cases ok
  · rw [readF_no hcr]; exact hn
  · rw [readF_ok hcr]
    rcases readW_cases ws with ⟨_, h2⟩ | ⟨e, r, h1, h2⟩
    · rw [h2]; exact hn
    · rw [h2]
      have := ((rd_bulk nmB 6100).L 1 ws e r (words_four hcr) h1).2
      split
      · show bulkE e ≤ 3600
        omega
      · exact hn
set_option maxHeartbeats 8000000 in
theorem fnReadPlain_walk (Ac : Option Addr) (l : List UInt8) (cap : Nat) (w : World) (h : Bytes w w.heap.size Ac l) (hn : l.length ≤ cap) (hcap : cap ≤ 9223372036854775807) (T : Tabs w) (N : NTabs w) (G : Sgn w) :
    Calls Tryz.prog 5 #[.slice Ac l.length cap] w fun ee w' => ee = .returned (.bool true) ∧ Below w.heap.size w w' := by
  by_cases hbig : 1048576 < l.length
  · have hbig' : (1048576 : Int) < l.length := by omega
    clear h T N G
    go_enter Tryz.func5, Tryz.ntmps5
    go_wp2_with fail
    go_ret
    exact ⟨rfl, Below.refl _ _⟩
  have hbig' : ¬ (1048576 : Int) < l.length := by omega
  have DR := Lib.hid (drawReadExpr_any Ac l cap w h hn hcap)
  have TNG := Lib.hid (show ∀ W, Below w.heap.size w W → Tabs W ∧ NTabs W ∧ Sgn W from fun W h => ⟨T.below h, N.below h, G.below h⟩)
  clear h T N G hbig
  go_enter Tryz.func5, Tryz.ntmps5
  go_wp2_with fail
  refine Calls.mono DR.out ?_
  rintro ee w1 ⟨s, hs, rfl, hb1⟩
  have IM := implReadExpr_any s w1 (by omega) (TNG.out w1 hb1).1 (TNG.out w1 hb1).2.1 (TNG.out w1 hb1).2.2
  have SP := fun W => specReadExpr_any s W (by omega)
  have hbk := readF_bulkP s
  have HB1 := Lib.hid hb1
  have hs1 := hb1.size
  have HY := Lib.hid (fun e => readF_yes (s := s) (e := e))
  clear hb1 DR
  generalize hp : readF s = p at *
  obtain ⟨e, ok⟩ := p
  dsimp only at hbk
  have SS := fun A c A' c' W h1 h2 => specSameExpr_any e e A c A' c' W h1 h2 (by omega) (by omega)
  unfold exV at SS
  rw [eqB_yes] at SS
  replace SS := fun A c A' c' W h1 h2 => Lib.hid (SS A c A' c' W h1 h2)
  replace IM := Lib.hid IM
  replace SP := fun W => Lib.hid (SP W)
  cases ok
  · clear hp HY TNG
    go_wp2_with fail
    (with_reducible refine Calls.mono IM.out ?_)
    rintro ee w2 ⟨A2, c2, rfl, hp2, hb12⟩
    unfold exV
    have hs2 := hb12.size
    have hal := (Below.refl w2.heap.size w2).alloc (Nat.le_refl _) (.cells #[.int .i64 e.op, .int .i64 e.n, .string e.name, .slice A2 e.kids.length c2] 24)
    have X3 := Lib.hid (Bx4.new w2 (.int .i64 e.op) (.int .i64 e.n) (.string e.name) (.slice A2 e.kids.length c2) 24)
    have hz3 : (w2.alloc (.cells #[.int .i64 e.op, .int .i64 e.n, .string e.name, .slice A2 e.kids.length c2] 24)).heap.size = w2.heap.size + 1 := World.size_alloc _ _
    have hb13 := hb12.trans (hal.mono hs2)
    have HP3 := Lib.hid (PdS.later hp2.pd hal (Nat.zero_le _) hal.size)
    clear hp2 hal hb12 IM
    go_wp2_with fail
    generalize w2.alloc (.cells #[.int .i64 e.op, .int .i64 e.n, .string e.name, .slice A2 e.kids.length c2] 24) = w3 at *
    (with_reducible refine Calls.mono (SP w3).out ?_)
    rintro ee w4 ⟨A4, c4, rfl, hp4, hb34⟩
    unfold exV
    have hs4 := hb34.size
    have hal := (Below.refl w4.heap.size w4).alloc (Nat.le_refl _) (.cells #[.int .i64 e.op, .int .i64 e.n, .string e.name, .slice A4 e.kids.length c4] 24)
    have Y5 := Lib.hid (Bx4.new w4 (.int .i64 e.op) (.int .i64 e.n) (.string e.name) (.slice A4 e.kids.length c4) 24)
    have hz5 : (w4.alloc (.cells #[.int .i64 e.op, .int .i64 e.n, .string e.name, .slice A4 e.kids.length c4] 24)).heap.size = w4.heap.size + 1 := World.size_alloc _ _
    have hb35 := hb34.trans (hal.mono hs4)
    have hb15 := hb13.trans (hb35.mono hb13.size)
    have X5 := Lib.hid (X3.out.below hb35 (by omega))
    have HP5 := Lib.hid (PdS.later HP3.out hb35 (Nat.zero_le _) hb35.size)
    have HQ5 := Lib.hid (PdS.later hp4 hal (Nat.zero_le _) hal.size)
    have hs5 := hb35.size
    clear hp4 hal hb34 hb35 hb13 X3 HP3 SP
    go_upto_region 6 with (fail)
    generalize w4.alloc (.cells #[.int .i64 e.op, .int .i64 e.n, .string e.name, .slice A4 e.kids.length c4] 24) = w5 at *
    have SS5 := Lib.hid (SS A2 c2 A4 c4 w5 HP5.out.between_rd HQ5.out.between_rd).out
    obtain ⟨x0, x1, x2, x3⟩ := X5.out
    obtain ⟨y0, y1, y2, y3⟩ := Y5.out
    go_wp2_with fail
    (with_reducible refine Calls.mono SS5.out ?_)
    rintro ee w6 ⟨rfl, hb56⟩
    have hs6 := hb56.size
    have X6 := Lib.hid (X5.out.below hb56 (by omega))
    have Y6 := Lib.hid (Y5.out.below hb56 (by omega))
    have hb16 := hb15.trans (hb56.mono hb15.size)
    have HP6 := Lib.hid (PdS.later HP5.out hb56 (Nat.zero_le _) hb56.size)
    have HQ6 := Lib.hid (PdS.later HQ5.out hb56 (Nat.zero_le _) hb56.size)
    clear x0 x1 x2 x3 y0 y1 y2 y3 SS5 X5 Y5 HP5 HQ5 hb56 hb15
    obtain ⟨x0, x1, x2, x3⟩ := X6.out
    obtain ⟨y0, y1, y2, y3⟩ := Y6.out
    have SS6 := Lib.hid (SS A2 c2 A4 c4 w6 HP6.out.between_rd HQ6.out.between_rd).out
    clear HP6 HQ6 SS
    go_wp2_with fail
    (with_reducible refine Calls.mono SS6.out ?_)
    rintro ee w7 ⟨rfl, hb67⟩
    have hb7 := HB1.out.trans ((hb16.trans (hb67.mono hb16.size)).mono HB1.out.size)
    clear x0 x1 x2 x3 y0 y1 y2 y3 SS6 hb67 hb16 X6 Y6 HB1
    go_wp2_with fail
    go_ret
    exact ⟨rfl, hb7⟩
  · obtain ⟨hv, ws, hcs, _, hws⟩ := readF_yes hp
    have HV := Lib.hid hv
    have HCS := Lib.hid hcs
    clear hp HY hv hcs
    go_wp2_with fail
    (with_reducible refine Calls.mono IM.out ?_)
    rintro ee w2 ⟨A2, c2, rfl, hp2, hb12⟩
    unfold exV
    have hs2 := hb12.size
    have hal := (Below.refl w2.heap.size w2).alloc (Nat.le_refl _) (.cells #[.int .i64 e.op, .int .i64 e.n, .string e.name, .slice A2 e.kids.length c2] 24)
    have X3 := Lib.hid (Bx4.new w2 (.int .i64 e.op) (.int .i64 e.n) (.string e.name) (.slice A2 e.kids.length c2) 24)
    have hz3 : (w2.alloc (.cells #[.int .i64 e.op, .int .i64 e.n, .string e.name, .slice A2 e.kids.length c2] 24)).heap.size = w2.heap.size + 1 := World.size_alloc _ _
    have hb13 := hb12.trans (hal.mono hs2)
    have HP3 := Lib.hid (PdS.later hp2.pd hal (Nat.zero_le _) hal.size)
    clear hp2 hal hb12 IM
    go_wp2_with fail
    generalize w2.alloc (.cells #[.int .i64 e.op, .int .i64 e.n, .string e.name, .slice A2 e.kids.length c2] 24) = w3 at *
    (with_reducible refine Calls.mono (SP w3).out ?_)
    rintro ee w4 ⟨A4, c4, rfl, hp4, hb34⟩
    unfold exV
    have hs4 := hb34.size
    have hal := (Below.refl w4.heap.size w4).alloc (Nat.le_refl _) (.cells #[.int .i64 e.op, .int .i64 e.n, .string e.name, .slice A4 e.kids.length c4] 24)
    have Y5 := Lib.hid (Bx4.new w4 (.int .i64 e.op) (.int .i64 e.n) (.string e.name) (.slice A4 e.kids.length c4) 24)
    have hz5 : (w4.alloc (.cells #[.int .i64 e.op, .int .i64 e.n, .string e.name, .slice A4 e.kids.length c4] 24)).heap.size = w4.heap.size + 1 := World.size_alloc _ _
    have hb35 := hb34.trans (hal.mono hs4)
    have hb15 := hb13.trans (hb35.mono hb13.size)
    have X5 := Lib.hid (X3.out.below hb35 (by omega))
    have HP5 := Lib.hid (PdS.later HP3.out hb35 (Nat.zero_le _) hb35.size)
    have HQ5 := Lib.hid (PdS.later hp4 hal (Nat.zero_le _) hal.size)
    have hs5 := hb35.size
    clear hp4 hal hb34 hb35 hb13 X3 HP3 SP
    go_upto_region 6 with (fail)
    generalize w4.alloc (.cells #[.int .i64 e.op, .int .i64 e.n, .string e.name, .slice A4 e.kids.length c4] 24) = w5 at *
    have SS5 := Lib.hid (SS A2 c2 A4 c4 w5 HP5.out.between_rd HQ5.out.between_rd).out
    obtain ⟨x0, x1, x2, x3⟩ := X5.out
    obtain ⟨y0, y1, y2, y3⟩ := Y5.out
    go_wp2_with fail
    (with_reducible refine Calls.mono SS5.out ?_)
    rintro ee w6 ⟨rfl, hb56⟩
    have hs6 := hb56.size
    have X6 := Lib.hid (X5.out.below hb56 (by omega))
    have Y6 := Lib.hid (Y5.out.below hb56 (by omega))
    have hb16 := hb15.trans (hb56.mono hb15.size)
    have HP6 := Lib.hid (PdS.later HP5.out hb56 (Nat.zero_le _) hb56.size)
    have HQ6 := Lib.hid (PdS.later HQ5.out hb56 (Nat.zero_le _) hb56.size)
    clear x0 x1 x2 x3 y0 y1 y2 y3 SS5 X5 Y5 HP5 HQ5 hb56 hb15
    obtain ⟨x0, x1, x2, x3⟩ := X6.out
    obtain ⟨y0, y1, y2, y3⟩ := Y6.out
    clear HQ6 SS y0 y1 y2 y3 Y6
    have hbw6 := HB1.out.trans (hb16.mono HB1.out.size)
    have TX := implExprText_any e A2 c2 w6 HP6.out.between_rd (by omega) (TNG.out w6 hbw6).1 (TNG.out w6 hbw6).2.1 (TNG.out w6 hbw6).2.2
    unfold exV at TX
    rw [textF_yes HV.out] at TX
    replace TX := Lib.hid TX
    have hsz := textE_size HV.out
    have hrd := read_text HV.out
    have hct := text_cut HV.out
    have RE := fun W (h : Below w.heap.size w W) => implReadExpr_any (textE e) W (by omega) (TNG.out W h).1 (TNG.out W h).2.1 (TNG.out W h).2.2
    have CB := fun W (h : Below w.heap.size w W) => implCutWords_any (textE e) W (by omega) (TNG.out W h).1 (TNG.out W h).2.1
    have CA := fun W (h : Below w.heap.size w W) => implCutWords_any s W (by omega) (TNG.out W h).1 (TNG.out W h).2.1
    have ES := fun A' c' W (h : Below w6.heap.size w6 W) hR => implSame_walk e e A' c' A2 c2 W hR (HP6.out.later h (Nat.zero_le _) h.size) (by omega) (by omega)
    have IV := fun W (h : Below w6.heap.size w6 W) => implExprValid_any e A2 c2 W (HP6.out.later h (Nat.zero_le _) h.size).between_rd (by omega) (TNG.out W (hbw6.trans (h.mono hbw6.size))).1 (TNG.out W (hbw6.trans (h.mono hbw6.size))).2.2
    unfold exV at ES IV
    rw [eqB_yes] at ES
    rw [HV.out] at IV
    rw [hrd] at RE
    rw [hct] at CB
    rw [HCS.out] at CA
    generalize textE e = tx at *
    generalize wE e 1 = wb at *
    replace RE := fun W h => Lib.hid (RE W h)
    replace CA := fun W h => Lib.hid (CA W h)
    replace CB := fun W h => Lib.hid (CB W h)
    replace IV := fun W h => Lib.hid (IV W h)
    replace ES := fun A' c' W h hR => Lib.hid (ES A' c' W h hR)
    clear hsz hrd hct HV HCS TNG HP6
    go_wp2_with fail
    (with_reducible refine Calls.mono TX.out ?_)
    rintro ee w7 ⟨rfl, hb67⟩
    have X7 := Lib.hid (X6.out.below hb67 (by omega))
    have hbw7 := hbw6.trans (hb67.mono hbw6.size)
    have hs7 := hb67.size
    clear x0 x1 x2 x3 X6 TX
    go_wp2_with fail
    (with_reducible refine Calls.mono (RE w7 hbw7).out ?_)
    rintro ee w8 ⟨A8, c8, rfl, hp8, hb78⟩
    unfold exV
    have hs8 := hb78.size
    have hal := (Below.refl w8.heap.size w8).alloc (Nat.le_refl _) (.cells #[.int .i64 e.op, .int .i64 e.n, .string e.name, .slice A8 e.kids.length c8] 24)
    have Z9 := Lib.hid (Bx4.new w8 (.int .i64 e.op) (.int .i64 e.n) (.string e.name) (.slice A8 e.kids.length c8) 24)
    have hz9 : (w8.alloc (.cells #[.int .i64 e.op, .int .i64 e.n, .string e.name, .slice A8 e.kids.length c8] 24)).heap.size = w8.heap.size + 1 := World.size_alloc _ _
    have hb79 := hb78.trans (hal.mono hs8)
    have hb69 := hb67.trans (hb79.mono hb67.size)
    have hbw9 := hbw7.trans (hb79.mono hbw7.size)
    have X9 := Lib.hid (X7.out.below hb79 (by omega))
    have HR9 := Lib.hid (PdS.later hp8.pd hal (Nat.zero_le _) hal.size)
    have hs9 := hb79.size
    clear hp8 hal hb78 hb79 hb67 hbw7 X7 RE
    go_wp2_with fail
    generalize w8.alloc (.cells #[.int .i64 e.op, .int .i64 e.n, .string e.name, .slice A8 e.kids.length c8] 24) = w9 at *
    (with_reducible refine Calls.mono (CA w9 hbw9).out ?_)
    rintro ee w10 ⟨⟨va, rfl, hwa⟩, hb910⟩
    obtain ⟨Aa, ca, rfl⟩ := WRow.slice (show WRow _ _ va ws from hwa)
    have hs10 := hb910.size
    have X10 := Lib.hid (X9.out.below hb910 (by omega))
    have Z10 := Lib.hid (Z9.out.below hb910 (by omega))
    have HR10 := Lib.hid (PdS.later HR9.out hb910 (Nat.zero_le _) hb910.size)
    have hb610 := hb69.trans (hb910.mono hb69.size)
    have hbw10 := hbw9.trans (hb910.mono hbw9.size)
    clear hwa hb910 hb69 hbw9 X9 Z9 HR9 CA
    go_wp2_with fail
    (with_reducible refine Calls.mono (CB w10 hbw10).out ?_)
    rintro ee w11 ⟨⟨vb, rfl, hwb⟩, hb1011⟩
    obtain ⟨Ab, cb, rfl⟩ := WRow.slice (show WRow _ _ vb wb from hwb)
    have hs11 := hb1011.size
    have X11 := Lib.hid (X10.out.below hb1011 (by omega))
    have Z11 := Lib.hid (Z10.out.below hb1011 (by omega))
    have HR11 := Lib.hid (PdS.later HR10.out hb1011 (Nat.zero_le _) hb1011.size)
    have hb611 := hb610.trans (hb1011.mono hb610.size)
    clear hwb hb1011 hb610 hbw10 X10 Z10 HR10 CB
    have ES11 := Lib.hid (ES A8 c8 w11 hb611 HR11.out).out
    obtain ⟨x0, x1, x2, x3⟩ := X11.out
    obtain ⟨z0, z1, z2, z3⟩ := Z11.out
    go_wp2_with fail
    (with_reducible refine Calls.mono ES11.out ?_)
    rintro ee w12 ⟨rfl, hb1112⟩
    have X12 := Lib.hid (X11.out.below hb1112 (by omega))
    have hb612 := hb611.trans (hb1112.mono hb611.size)
    clear x0 x1 x2 x3 z0 z1 z2 z3 ES11 hb1112 hb611 X11 Z11 HR11 ES
    obtain ⟨x0, x1, x2, x3⟩ := X12.out
    go_wp2_with fail
    (with_reducible refine Calls.mono (IV w12 hb612).out ?_)
    rintro ee w13 ⟨rfl, hb1213⟩
    have hb13 := hbw6.trans ((hb612.trans (hb1213.mono hb612.size)).mono hbw6.size)
    have hle : ((wb.length : Int) ≤ (ws.length : Int)) := by omega
    clear x0 x1 x2 x3 IV hb1213 hb612 X12 HB1
    go_wp2_with fail
    go_ret
    exact ⟨rfl, hb13⟩
end Go.Proofs.YtkhcfhhejmkikaaGreatDoor

namespace Go.Proofs.YtkhcfhhejmkikaaGreatDoor
open Go.ChangeShapes Go.WideShapes Go.ChangeAt Go.RowKit Go.WideMaps
open Go.ChangeMaps (open_string)
set_option maxRecDepth 100000

namespace ExReadPlain
theorem plain : (Rows.fnReadPlainRow.laid.all fun x => x.2.handleName?.isNone) = true := by kernel_rfl
/-- The door's own heap meets the condition: three closed facts. -/
theorem door_met (os : Os) (args : Array Value) : laidMetH Tryz.prog Rows.fnReadPlainRow.laid ((World.doorLaid Tryz.prog 400 os).forCall (fun _ _ => 0) ⟨#[], args, []⟩).memory :=
  laidMetH_of_parts3 (fuel := 8) (laidMet_of_run' 8 (by kernel_rfl) (by kernel_rfl)) (by kernel_rfl) (by kernel_rfl)
theorem lifted (os : Os) (started : os.Started) (H : Type) (enc : TypeId × Value → H) :
    ReturnsInHanded {} Tryz.checked os 5 .any (fun w args => (Rows.fnReadPlainSpec.pre enc Tryz.prog Tryz.f5 [] false w args ∧ laidMetH Tryz.prog Rows.fnReadPlainRow.laid w) ∧ sizedMet enc Tryz.prog Tryz.f5 (OpenSpec.ofChange Rows.fnReadPlainSpec) false w args)
      (Rows.fnReadPlainSpec.post enc Tryz.prog Tryz.f5 false true false false) := by
  refine returnsInHanded_of_change_and (C := Tryz.checked) (X := fun w _ => laidMetH Tryz.prog Rows.fnReadPlainRow.laid w) (fun _ _ _ hh h => h.of_heap hh) ownNone started (by kernel_rfl) Tryz.func5
    (ChangeSpec.witness_shaped (enc := enc) (C := Tryz.checked) (os := os) (X := fun w _ => laidMetH Tryz.prog Rows.fnReadPlainRow.laid w) false (World.doorLaid Tryz.prog 400 os) #[.slice none 0 0] 8 rfl (World.shaped_of_RefB (by kernel_rfl) (by kernel_rfl)) (by kernel_rfl) (by kernel_rfl) (by kernel_rfl) (door_met os _)) ?_
  intro W base args ds gs before hval0 hW _ hsz hL0 _
  have hval : ∀ (j : Nat) t v, Tryz.f5.params[j]? = some t → args[j]? = some v → Value.okWide Tryz.prog W .any base t v := hval0
  have hL : laidMet Tryz.prog Rows.fnReadPlainRow.laid W := by rw [← MakeChecks.laidMetH_plain _ _ _ plain]; exact hL0
  have hWhole := hW
  obtain ⟨p, q, hA0, hV, rfl, hfz, hnd⟩ := hW
  have hA : DataW.TrodAll enc Tryz.prog W 0 (fun _ => true) true Tryz.f5.params.toList args.toList ds p := hA0
  rw [Tryz.params5] at hA hval
  clear hA0 hval0 hL0
  obtain ⟨v0, d0, rfl, rfl, h0⟩ := trodAll_one hA
  obtain ⟨A, l, cap, rfl, hB, hn, hcap⟩ := open_byteS Tryz.underlying30 Tryz.underlying5 (by kernel_rfl) (hval 0 30 v0 rfl rfl) h0
  have N : NTabs W := ntabs_of_laid hL (by simp [Rows.fnReadPlainRow]) (by simp [Rows.fnReadPlainRow]) (by simp [Rows.fnReadPlainRow]) (by simp [Rows.fnReadPlainRow])
  have T : Tabs W := tabs_of_laid hL (by simp [Rows.fnReadPlainRow]) (by simp [Rows.fnReadPlainRow])
  have G : Sgn W := sgn_of_laid hL (by simp [Rows.fnReadPlainRow])
  obtain ⟨g1, g2, g3, rfl⟩ : ∃ g1 g2 g3, gs = [g1, g2, g3] := vars_three hV
  refine (fnReadPlain_walk A l cap W hB hn hcap T N G).mono fun e W' ⟨he, hb⟩ => ⟨_, he, ?_⟩
  exact law_post laidOut (by kernel_rfl) (by kernel_rfl) (by kernel_rfl) Tryz.underlying4 rfl hWhole hb
theorem row_holds : Rows.FnReadPlainSaid :=
  OpenClaim.holds_of_wide 5 Tryz.f5 rfl rfl rfl rfl rfl rfl rfl ⟨rfl, rfl, rfl, rfl, rfl⟩ rfl rfl rfl rfl rfl (by kernel_rfl) Tryz.func5 (by kernel_rfl)
    (of_decide_eq_true (by kernel_rfl)) (by unfold Func.isWrapper; first | (rw [if_pos (by decide +kernel)]; kernel_rfl) | (rw [if_neg (by decide +kernel)]; exact ⟨rfl, rfl⟩))
    (fun os started H enc _ => lifted os started H enc)
theorem holds : Rows.FnReadPlainCardSaid :=
  Claim7.holds_tied_plain_at .later [] Rows.fnReadPlainCard.laidKinds true Rows.fnReadPlainCard.stood.harness true
    row_holds (fun _ h => by cases h) (by kernel_rfl) (fun _ h => by cases h) fnReadPlain_row_tie rfl ⟨rfl, rfl⟩ (by kernel_rfl) rfl
    (fun f fn hf hfn => by
      obtain rfl : f = 5 := Option.some.inj ((show Tryz.prog.funcNamed Rows.fnReadPlainRow.func = some 5 by kernel_rfl).symm.trans hf) |>.symm
      obtain rfl : fn = Tryz.f5 := (Option.some.inj (Tryz.func5.symm.trans hfn)).symm
      exact ⟨by kernel_rfl, fun j t ht => by
        have hall : (Tryz.f5.params.toList.all fun u => !Tryz.prog.wantsStandIn u) = true := by kernel_rfl
        exact (show Tryz.prog.wantsStandIn t = false by simpa using List.all_eq_true.1 hall t (by simpa using Array.mem_of_getElem? ht))⟩)
    (by kernel_rfl)
#print axioms holds
end ExReadPlain
end Go.Proofs.YtkhcfhhejmkikaaGreatDoor
