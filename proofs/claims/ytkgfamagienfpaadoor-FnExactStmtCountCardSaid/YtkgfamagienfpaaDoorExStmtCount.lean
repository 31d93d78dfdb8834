/-
  For every program the model's StmtCount and the program's StmtCount answer alike, and nothing that was there turns. Conditions: the program's tables stand as their text lays them (tied by the card).
-/
import Derived.Test.YtkgfamagienfpaaDoorQ3
import Derived.Test.YtkgfamagienfpaaDoorP3
import Derived.Test.YtkgfamagienfpaaDoorLaidF
import Derived.Test.YtkgfamagienfpaaDoorRows
import Derived.ShapedOpen
import Derived.Test.YtkgfamagienfpaaDoorCards
import Derived.Test.YtkgfamagienfpaaDoorTie
import Derived.SevenTiedAt
namespace Go.Proofs.YtkgfamagienfpaaDoor
open Go.ChangeShapes Go.WideShapes Go.ChangeAt Go.RowKit Go.WideMaps
open Go.ChangeMaps (open_string)
set_option maxRecDepth 100000

namespace ExStmtCount
theorem plain : (Rows.fnExactStmtCountRow.laid.all fun x => x.2.handleName?.isNone) = true := by kernel_rfl
/-- The door's own heap meets the condition: three closed facts. -/
theorem door_met (os : Os) (args : Array Value) : laidMetH Tryd.prog Rows.fnExactStmtCountRow.laid ((World.doorLaid Tryd.prog 400 os).forCall (fun _ _ => 0) ⟨#[], args, []⟩).memory :=
  laidMetH_of_parts3 (fuel := 8) (laidMet_of_run' 8 (by kernel_rfl) (by kernel_rfl)) (by kernel_rfl) (by kernel_rfl)
theorem lifted (os : Os) (started : os.Started) (H : Type) (enc : TypeId × Value → H) :
    ReturnsInHanded {} Tryd.checked os 5 .any (fun w args => (Rows.fnExactStmtCountSpec.pre enc Tryd.prog Tryd.f5 [] false w args ∧ laidMetH Tryd.prog Rows.fnExactStmtCountRow.laid w) ∧ sizedMet enc Tryd.prog Tryd.f5 (OpenSpec.ofChange Rows.fnExactStmtCountSpec) false w args)
      (Rows.fnExactStmtCountSpec.post enc Tryd.prog Tryd.f5 false true false false) := by
  refine returnsInHanded_of_change_and (C := Tryd.checked) (X := fun w _ => laidMetH Tryd.prog Rows.fnExactStmtCountRow.laid w) (fun _ _ _ hh h => h.of_heap hh) ownNone started (by kernel_rfl) Tryd.func5
    (ChangeSpec.witness_shaped (enc := enc) (C := Tryd.checked) (os := os) (X := fun w _ => laidMetH Tryd.prog Rows.fnExactStmtCountRow.laid w) false (World.doorLaid Tryd.prog 400 os) #[.agg #[.slice none 0 0]] 8 rfl (World.shaped_of_RefB (by kernel_rfl) (by kernel_rfl)) (by kernel_rfl) (by kernel_rfl) (by kernel_rfl) (door_met os _)) ?_
  intro W base args ds gs before hval0 hW _ hsz hL0 _
  have hval : ∀ (j : Nat) t v, Tryd.f5.params[j]? = some t → args[j]? = some v → Value.okWide Tryd.prog W .any base t v := hval0
  have hL : laidMet Tryd.prog Rows.fnExactStmtCountRow.laid W := by rw [← MakeChecks.laidMetH_plain _ _ _ plain]; exact hL0
  have hWhole := hW
  obtain ⟨p, q, hA0, hV, rfl, hfz, hnd⟩ := hW
  have hA : DataW.TrodAll enc Tryd.prog W 0 (fun _ => true) true Tryd.f5.params.toList args.toList ds p := hA0
  rw [Tryd.params5] at hA hval
  clear hA0 hval0 hL0
  obtain ⟨v0, d0, rfl, rfl, h0⟩ := trodAll_one hA
  obtain ⟨k, hV', hm⟩ := open_program Tryd.underlying85 (by kernel_rfl) (by kernel_rfl) Tryd.underlying3 Tryd.underlying3 Tryd.underlying9 Tryd.underlying22
    Tryd.underlying25 (by kernel_rfl) (by kernel_rfl) Tryd.underlying3 Tryd.underlying9 Tryd.underlying22 Tryd.underlying23 Tryd.underlying23
    Tryd.underlying98 (by kernel_rfl) (by kernel_rfl) Tryd.underlying9 Tryd.underlying49 Tryd.underlying9 (by kernel_rfl) Tryd.underlying23
    Tryd.underlying37 (by kernel_rfl) (by kernel_rfl) Tryd.underlying35 (hval 0 37 v0 rfl rfl) h0
  have T : Tabs W := tabs_of_laid hL (by simp [Rows.fnExactStmtCountRow]) (by simp [Rows.fnExactStmtCountRow])
  have G : Sgn W := sgn_of_laid hL (by simp [Rows.fnExactStmtCountRow])
  have F : Fms W := fms_of_laid hL (by simp [Rows.fnExactStmtCountRow])
  obtain ⟨g1, g2, g3, g4, rfl⟩ : ∃ g1 g2 g3 g4, gs = [g1, g2, g3, g4] := vars_four hV
  refine (fnExactStmtCount_walk k v0 W hV' hm T G F).mono fun e W' ⟨he, hb⟩ => ⟨_, he, ?_⟩
  exact law_post laidOut (by kernel_rfl) (by kernel_rfl) (by kernel_rfl) Tryd.underlying4 rfl hWhole hb
theorem row_holds : Rows.FnExactStmtCountSaid :=
  OpenClaim.holds_of_wide 5 Tryd.f5 rfl rfl rfl rfl rfl rfl rfl ⟨rfl, rfl, rfl, rfl, rfl⟩ rfl rfl rfl rfl rfl (by kernel_rfl) Tryd.func5 (by kernel_rfl)
    (of_decide_eq_true (by kernel_rfl)) (by unfold Func.isWrapper; first | (rw [if_pos (by decide +kernel)]; kernel_rfl) | (rw [if_neg (by decide +kernel)]; exact ⟨rfl, rfl⟩))
    (fun os started H enc _ => lifted os started H enc)
theorem holds : Rows.FnExactStmtCountCardSaid :=
  Claim7.holds_tied_plain_at .later [] Rows.fnExactStmtCountCard.laidKinds true Rows.fnExactStmtCountCard.stood.harness Rows.fnExactStmtCountCard.stood.looks
    row_holds (fun _ h => by cases h) (by kernel_rfl) (fun _ h => by cases h) fnExactStmtCount_row_tie rfl ⟨rfl, rfl⟩ (by kernel_rfl) rfl
    (fun f fn hf hfn => by
      obtain rfl : f = 5 := Option.some.inj ((show Tryd.prog.funcNamed Rows.fnExactStmtCountRow.func = some 5 by kernel_rfl).symm.trans hf) |>.symm
      obtain rfl : fn = Tryd.f5 := (Option.some.inj (Tryd.func5.symm.trans hfn)).symm
      exact ⟨by kernel_rfl, fun j t ht => by
        have hall : (Tryd.f5.params.toList.all fun u => !Tryd.prog.wantsStandIn u) = true := by kernel_rfl
        exact (show Tryd.prog.wantsStandIn t = false by simpa using List.all_eq_true.1 hall t (by simpa using Array.mem_of_getElem? ht))⟩)
    (by kernel_rfl)
#print axioms holds
end ExStmtCount
end Go.Proofs.YtkgfamagienfpaaDoor
