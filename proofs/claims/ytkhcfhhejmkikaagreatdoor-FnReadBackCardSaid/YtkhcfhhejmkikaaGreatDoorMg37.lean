/-
  For every stream of bytes the drawn expression of the document's chapter 2 is read back from its text, which is plain; where it has none, it is not valid. Conditions: the program's tables and the library's variables stand as their text lays them (tied by the card).
-/
import Derived.Test.YtkhcfhhejmkikaaGreatDoorMg4
import Derived.Test.YtkhcfhhejmkikaaGreatDoorMg7
import Derived.Test.YtkhcfhhejmkikaaGreatDoorMg8
import Derived.Test.YtkhcfhhejmkikaaGreatDoorMg18
import Derived.Test.YtkhcfhhejmkikaaGreatDoorMg22
import Derived.Test.YtkhcfhhejmkikaaGreatDoorMg34
import Derived.Test.YtkhcfhhejmkikaaGreatDoorMg36
import Derived.Test.YtkhcfhhejmkikaaGreatDoorRows
import Derived.ShapedOpen
import Derived.Test.YtkhcfhhejmkikaaGreatDoorCards
import Derived.Test.YtkhcfhhejmkikaaGreatDoorTie
import Derived.SevenTiedAt
namespace Go.Proofs.YtkhcfhhejmkikaaGreatDoor
open Go.RowKit
set_option maxRecDepth 100000

set_option maxHeartbeats 8000000 in
theorem fnReadBack_walk (Ac : Option Addr) (l : List UInt8) (cap : Nat) (w : World) (h : Bytes w w.heap.size Ac l) (hn : l.length ≤ cap) (hcap : cap ≤ 9223372036854775807) (T : Tabs w) (N : NTabs w) (G : Sgn w) :
    Calls Tryz.prog 4 #[.slice Ac l.length cap] w fun ee w' => ee = .returned (.bool true) ∧ Below w.heap.size w w' := by
  by_cases hbig : 1048576 < l.length
  · have hbig' : (1048576 : Int) < l.length := by omega
    clear h T N G
    go_enter Tryz.func4, Tryz.ntmps4
    go_wp2_with fail
    go_ret
    exact ⟨rfl, Below.refl _ _⟩
  have hbig' : ¬ (1048576 : Int) < l.length := by omega
  have DR := Lib.hid (drawExprText_any Ac l cap w h hn hcap)
  have TNG := Lib.hid (show ∀ W, Below w.heap.size w W → Tabs W ∧ NTabs W ∧ Sgn W from fun W h => ⟨T.below h, N.below h, G.below h⟩)
  clear h T N G hbig
  go_enter Tryz.func4, Tryz.ntmps4
  go_wp2_with fail
  refine Calls.mono DR.out ?_
  rintro ee w1 ⟨e, A, c, rfl, hp1, hbk, hb1⟩
  unfold exV
  have hal := (Below.refl w1.heap.size w1).alloc (Nat.le_refl _) (.cells #[.int .i64 e.op, .int .i64 e.n, .string e.name, .slice A e.kids.length c] 24)
  have B2 := Lib.hid (Bx4.new w1 (.int .i64 e.op) (.int .i64 e.n) (.string e.name) (.slice A e.kids.length c) 24)
  have hz2 : (w1.alloc (.cells #[.int .i64 e.op, .int .i64 e.n, .string e.name, .slice A e.kids.length c] 24)).heap.size = w1.heap.size + 1 := World.size_alloc _ _
  have HB2 := Lib.hid (hb1.trans (hal.mono hb1.size))
  have hs1 := hb1.size
  have HP2 := Lib.hid (PdS.later hp1 hal (Nat.le_refl _) hal.size)
  clear hb1 hp1 DR hal
  go_wp2_with fail
  generalize w1.alloc (.cells #[.int .i64 e.op, .int .i64 e.n, .string e.name, .slice A e.kids.length c] 24) = w2 at *
  have RD := Lib.hid (show ∀ W, Below w2.heap.size w2 W → RdS W W.heap.size e.kids A from fun W h => (HP2.out.later h (Nat.le_refl _) h.size).between_rd)
  have IX := implExprText_any e A c w2 (RD.out w2 (Below.refl _ _)) (by omega) (TNG.out w2 HB2.out).1 (TNG.out w2 HB2.out).2.1 (TNG.out w2 HB2.out).2.2
  have SX := fun W h => specExprText_any e A c W (RD.out W h) (by omega)
  have IV := fun W (h : Below w2.heap.size w2 W) => implExprValid_any e A c W (RD.out W h) (by omega) (TNG.out W (HB2.out.trans (h.mono HB2.out.size))).1 (TNG.out W (HB2.out.trans (h.mono HB2.out.size))).2.2
  have SV := fun W h => specExprValid_any e A c W (RD.out W h) (by omega)
  have ES := fun A' c' W (h : Below w2.heap.size w2 W) hR => implSame_walk e e A' c' A c W hR (HP2.out.later h (Nat.zero_le _) h.size) (by omega) (by omega)
  unfold exV at IX SX IV SV ES
  rw [eqB_yes] at ES
  cases hv : validE e
  · rw [textF_no hv] at IX SX
    rw [hv] at SV
    replace IX := Lib.hid IX
    replace SX := fun W h => Lib.hid (SX W h)
    replace SV := fun W h => Lib.hid (SV W h)
    clear hv IV ES RD HP2 TNG hbk
    (with_reducible refine Calls.mono IX.out ?_)
    rintro ee w3 ⟨rfl, hb3⟩
    have B3 := Lib.hid (B2.out.below hb3 (by omega))
    have hs3 := hb3.size
    obtain ⟨x0, x1, x2, x3⟩ := B3.out
    clear IX B2
    go_wp2_with fail
    (with_reducible refine Calls.mono (SX w3 hb3).out ?_)
    rintro ee w4 ⟨rfl, hb34⟩
    have B4 := Lib.hid (B3.out.below hb34 (by omega))
    have hb4 := hb3.trans (hb34.mono hb3.size)
    clear x0 x1 x2 x3 SX hb3 hb34 B3
    obtain ⟨x0, x1, x2, x3⟩ := B4.out
    go_wp2_with fail
    (with_reducible refine Calls.mono (SV w4 hb4).out ?_)
    rintro ee w5 ⟨rfl, hb45⟩
    have hb5 := HB2.out.trans ((hb4.trans (hb45.mono hb4.size)).mono HB2.out.size)
    clear x0 x1 x2 x3 SV hb4 hb45 B4 HB2
    go_wp2_with fail
    go_ret
    exact ⟨rfl, hb5⟩
  · have hsz := textE_size hv
    have hrd := read_text hv
    have hpl := plainF_text hv
    have RE := fun W (h : Below w2.heap.size w2 W) => implReadExpr_any (textE e) W (by omega) (TNG.out W (HB2.out.trans (h.mono HB2.out.size))).1 (TNG.out W (HB2.out.trans (h.mono HB2.out.size))).2.1 (TNG.out W (HB2.out.trans (h.mono HB2.out.size))).2.2
    have PL := fun W (h : Below w2.heap.size w2 W) => implPlainText_any (textE e) W (by omega) (TNG.out W (HB2.out.trans (h.mono HB2.out.size))).1 (TNG.out W (HB2.out.trans (h.mono HB2.out.size))).2.1
    rw [hrd] at RE
    rw [hpl] at PL
    rw [textF_yes hv] at IX SX
    rw [hv] at IV
    generalize textE e = tx at *
    have q1 : (tx.toList == tx.toList) = true := by simp
    replace IX := Lib.hid IX
    replace SX := fun W h => Lib.hid (SX W h)
    replace IV := fun W h => Lib.hid (IV W h)
    replace RE := fun W h => Lib.hid (RE W h)
    replace PL := fun W h => Lib.hid (PL W h)
    replace ES := fun A' c' W h hR => Lib.hid (ES A' c' W h hR)
    clear hv hsz hrd hpl SV RD TNG
    (with_reducible refine Calls.mono IX.out ?_)
    rintro ee w3 ⟨rfl, hb3⟩
    have B3 := Lib.hid (B2.out.below hb3 (by omega))
    have hs3 := hb3.size
    obtain ⟨x0, x1, x2, x3⟩ := B3.out
    clear IX B2
    go_wp2_with fail
    (with_reducible refine Calls.mono (SX w3 hb3).out ?_)
    rintro ee w4 ⟨rfl, hb34⟩
    have B4 := Lib.hid (B3.out.below hb34 (by omega))
    have hb4 := hb3.trans (hb34.mono hb3.size)
    clear x0 x1 x2 x3 SX hb3 hb34 B3
    go_wp2_with fail
    (with_reducible refine Calls.mono (RE w4 hb4).out ?_)
    rintro ee w5 ⟨A5, c5, rfl, hp5, hb45⟩
    unfold exV
    have hs4 := hb4.size
    have hs5 := hb45.size
    have hal := (Below.refl w5.heap.size w5).alloc (Nat.le_refl _) (.cells #[.int .i64 e.op, .int .i64 e.n, .string e.name, .slice A5 e.kids.length c5] 24)
    have Y6 := Lib.hid (Bx4.new w5 (.int .i64 e.op) (.int .i64 e.n) (.string e.name) (.slice A5 e.kids.length c5) 24)
    have hz6 : (w5.alloc (.cells #[.int .i64 e.op, .int .i64 e.n, .string e.name, .slice A5 e.kids.length c5] 24)).heap.size = w5.heap.size + 1 := World.size_alloc _ _
    have hb46 := hb45.trans (hal.mono hs5)
    have hb6 := hb4.trans (hb46.mono hb4.size)
    have HQ6 := Lib.hid (PdS.later hp5.pd hal (Nat.le_refl _) hal.size)
    have B6 := Lib.hid (B4.out.below hb46 (by omega))
    clear hp5 hal hb45 hb46 hb4 B4 RE
    go_wp2_with fail
    generalize w5.alloc (.cells #[.int .i64 e.op, .int .i64 e.n, .string e.name, .slice A5 e.kids.length c5] 24) = w6 at *
    (with_reducible refine Calls.mono (PL w6 hb6).out ?_)
    rintro ee w7 ⟨rfl, hb67⟩
    have hs7 := hb67.size
    have B7 := Lib.hid (B6.out.below hb67 (by omega))
    have Y7 := Lib.hid (Y6.out.below hb67 (by omega))
    have hb7 := hb6.trans (hb67.mono hb6.size)
    have ES7 := Lib.hid (ES A5 c5 w7 hb7 (PdS.later HQ6.out hb67 (Nat.zero_le _) hb67.size)).out
    clear PL HQ6 hb67 hb6 B6 Y6 ES HP2
    obtain ⟨x0, x1, x2, x3⟩ := B7.out
    obtain ⟨y0, y1, y2, y3⟩ := Y7.out
    go_wp2_with fail
    (with_reducible refine Calls.mono ES7.out ?_)
    rintro ee w8 ⟨rfl, hb78⟩
    have B8 := Lib.hid (B7.out.below hb78 (by omega))
    have hb8 := hb7.trans (hb78.mono hb7.size)
    clear x0 x1 x2 x3 y0 y1 y2 y3 ES7 hb78 hb7 B7 Y7
    obtain ⟨x0, x1, x2, x3⟩ := B8.out
    go_wp2_with fail
    (with_reducible refine Calls.mono (IV w8 hb8).out ?_)
    rintro ee w9 ⟨rfl, hb89⟩
    have hb9 := HB2.out.trans ((hb8.trans (hb89.mono hb8.size)).mono HB2.out.size)
    clear x0 x1 x2 x3 IV hb8 hb89 B8 HB2
    go_wp2_with fail
    go_ret
    exact ⟨rfl, hb9⟩
end Go.Proofs.YtkhcfhhejmkikaaGreatDoor

namespace Go.Proofs.YtkhcfhhejmkikaaGreatDoor
open Go.ChangeShapes Go.WideShapes Go.ChangeAt Go.RowKit Go.WideMaps
open Go.ChangeMaps (open_string)
set_option maxRecDepth 100000

namespace ExReadBack
theorem plain : (Rows.fnReadBackRow.laid.all fun x => x.2.handleName?.isNone) = true := by kernel_rfl
/-- The door's own heap meets the condition: three closed facts. -/
theorem door_met (os : Os) (args : Array Value) : laidMetH Tryz.prog Rows.fnReadBackRow.laid ((World.doorLaid Tryz.prog 400 os).forCall (fun _ _ => 0) ⟨#[], args, []⟩).memory :=
  laidMetH_of_parts3 (fuel := 8) (laidMet_of_run' 8 (by kernel_rfl) (by kernel_rfl)) (by kernel_rfl) (by kernel_rfl)
theorem lifted (os : Os) (started : os.Started) (H : Type) (enc : TypeId × Value → H) :
    ReturnsInHanded {} Tryz.checked os 4 .any (fun w args => (Rows.fnReadBackSpec.pre enc Tryz.prog Tryz.f4 [] false w args ∧ laidMetH Tryz.prog Rows.fnReadBackRow.laid w) ∧ sizedMet enc Tryz.prog Tryz.f4 (OpenSpec.ofChange Rows.fnReadBackSpec) false w args)
      (Rows.fnReadBackSpec.post enc Tryz.prog Tryz.f4 false true false false) := by
  refine returnsInHanded_of_change_and (C := Tryz.checked) (X := fun w _ => laidMetH Tryz.prog Rows.fnReadBackRow.laid w) (fun _ _ _ hh h => h.of_heap hh) ownNone started (by kernel_rfl) Tryz.func4
    (ChangeSpec.witness_shaped (enc := enc) (C := Tryz.checked) (os := os) (X := fun w _ => laidMetH Tryz.prog Rows.fnReadBackRow.laid w) false (World.doorLaid Tryz.prog 400 os) #[.slice none 0 0] 8 rfl (World.shaped_of_RefB (by kernel_rfl) (by kernel_rfl)) (by kernel_rfl) (by kernel_rfl) (by kernel_rfl) (door_met os _)) ?_
  intro W base args ds gs before hval0 hW _ hsz hL0 _
  have hval : ∀ (j : Nat) t v, Tryz.f4.params[j]? = some t → args[j]? = some v → Value.okWide Tryz.prog W .any base t v := hval0
  have hL : laidMet Tryz.prog Rows.fnReadBackRow.laid W := by rw [← MakeChecks.laidMetH_plain _ _ _ plain]; exact hL0
  have hWhole := hW
  obtain ⟨p, q, hA0, hV, rfl, hfz, hnd⟩ := hW
  have hA : DataW.TrodAll enc Tryz.prog W 0 (fun _ => true) true Tryz.f4.params.toList args.toList ds p := hA0
  rw [Tryz.params4] at hA hval
  clear hA0 hval0 hL0
  obtain ⟨v0, d0, rfl, rfl, h0⟩ := trodAll_one hA
  obtain ⟨A, l, cap, rfl, hB, hn, hcap⟩ := open_byteS Tryz.underlying30 Tryz.underlying5 (by kernel_rfl) (hval 0 30 v0 rfl rfl) h0
  have N : NTabs W := ntabs_of_laid hL (by simp [Rows.fnReadBackRow]) (by simp [Rows.fnReadBackRow]) (by simp [Rows.fnReadBackRow]) (by simp [Rows.fnReadBackRow])
  have T : Tabs W := tabs_of_laid hL (by simp [Rows.fnReadBackRow]) (by simp [Rows.fnReadBackRow])
  have G : Sgn W := sgn_of_laid hL (by simp [Rows.fnReadBackRow])
  obtain ⟨g1, g2, g3, rfl⟩ : ∃ g1 g2 g3, gs = [g1, g2, g3] := vars_three hV
  refine (fnReadBack_walk A l cap W hB hn hcap T N G).mono fun e W' ⟨he, hb⟩ => ⟨_, he, ?_⟩
  exact law_post laidOut (by kernel_rfl) (by kernel_rfl) (by kernel_rfl) Tryz.underlying4 rfl hWhole hb
theorem row_holds : Rows.FnReadBackSaid :=
  OpenClaim.holds_of_wide 4 Tryz.f4 rfl rfl rfl rfl rfl rfl rfl ⟨rfl, rfl, rfl, rfl, rfl⟩ rfl rfl rfl rfl rfl (by kernel_rfl) Tryz.func4 (by kernel_rfl)
    (of_decide_eq_true (by kernel_rfl)) (by unfold Func.isWrapper; first | (rw [if_pos (by decide +kernel)]; kernel_rfl) | (rw [if_neg (by decide +kernel)]; exact ⟨rfl, rfl⟩))
    (fun os started H enc _ => lifted os started H enc)
theorem holds : Rows.FnReadBackCardSaid :=
  Claim7.holds_tied_plain_at .later [] Rows.fnReadBackCard.laidKinds true Rows.fnReadBackCard.stood.harness true
    row_holds (fun _ h => by cases h) (by kernel_rfl) (fun _ h => by cases h) fnReadBack_row_tie rfl ⟨rfl, rfl⟩ (by kernel_rfl) rfl
    (fun f fn hf hfn => by
      obtain rfl : f = 4 := Option.some.inj ((show Tryz.prog.funcNamed Rows.fnReadBackRow.func = some 4 by kernel_rfl).symm.trans hf) |>.symm
      obtain rfl : fn = Tryz.f4 := (Option.some.inj (Tryz.func4.symm.trans hfn)).symm
      exact ⟨by kernel_rfl, fun j t ht => by
        have hall : (Tryz.f4.params.toList.all fun u => !Tryz.prog.wantsStandIn u) = true := by kernel_rfl
        exact (show Tryz.prog.wantsStandIn t = false by simpa using List.all_eq_true.1 hall t (by simpa using Array.mem_of_getElem? ht))⟩)
    (by kernel_rfl)
#print axioms holds
end ExReadBack
end Go.Proofs.YtkhcfhhejmkikaaGreatDoor
