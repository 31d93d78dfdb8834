/-
  For every unit, valid or not, the model's UnitText and the program's UnitText give the same text, and nothing that was there turns. Conditions: the program's tables of instructions and jumps and the library's table of powers of ten stand as their texts lay them (tied by the card).
-/
import Derived.Test.YtomhomnibikceaaDoorYI
import Derived.Test.YtomhomnibikceaaDoorNE
import Derived.Test.YtomhomnibikceaaDoorLaidY
import Derived.Test.YtomhomnibikceaaDoorRows
import Derived.ShapedOpen
import Derived.Test.YtomhomnibikceaaDoorCards
import Derived.Test.YtomhomnibikceaaDoorTie
import Derived.SevenTiedAt
namespace Go.Proofs.YtomhomnibikceaaDoor
open Go.ChangeShapes Go.WideShapes Go.ChangeAt Go.RowKit Go.WideMaps
open Go.ChangeMaps (open_string)
set_option maxRecDepth 100000

namespace ExUnitText
theorem plain : (Rows.fnExactUnitTextRow.laid.all fun x => x.2.handleName?.isNone) = true := by kernel_rfl
/-- The door's own heap meets the condition: three closed facts. -/
theorem door_met (os : Os) (args : Array Value) : laidMetH Tryd.prog Rows.fnExactUnitTextRow.laid ((World.doorLaid Tryd.prog 400 os).forCall (fun _ _ => 0) ⟨#[], args, []⟩).memory :=
  laidMetH_of_parts3 (fuel := 8) (laidMet_of_run' 8 (by kernel_rfl) (by kernel_rfl)) (by kernel_rfl) (by kernel_rfl)
theorem lifted (os : Os) (started : os.Started) (H : Type) (enc : TypeId × Value → H) :
    ReturnsInHanded {} Tryd.checked os 4 .any (fun w args => (Rows.fnExactUnitTextSpec.pre enc Tryd.prog Tryd.f4 [] false w args ∧ laidMetH Tryd.prog Rows.fnExactUnitTextRow.laid w) ∧ sizedMet enc Tryd.prog Tryd.f4 (OpenSpec.ofChange Rows.fnExactUnitTextSpec) false w args)
      (Rows.fnExactUnitTextSpec.post enc Tryd.prog Tryd.f4 false true false false) := by
  refine returnsInHanded_of_change_and (C := Tryd.checked) (X := fun w _ => laidMetH Tryd.prog Rows.fnExactUnitTextRow.laid w) (fun _ _ _ hh h => h.of_heap hh) ownNone started (by kernel_rfl) Tryd.func4
    (ChangeSpec.witness_shaped (enc := enc) (C := Tryd.checked) (os := os) (X := fun w _ => laidMetH Tryd.prog Rows.fnExactUnitTextRow.laid w) false (World.doorLaid Tryd.prog 400 os) #[.agg #[.slice none 0 0]] 8 rfl (World.shaped_of_RefB (by kernel_rfl) (by kernel_rfl)) (by kernel_rfl) (by kernel_rfl) (by kernel_rfl) (door_met os _)) ?_
  intro W base args ds gs before hval0 hW _ hsz hL0 _
  have hval : ∀ (j : Nat) t v, Tryd.f4.params[j]? = some t → args[j]? = some v → Value.okWide Tryd.prog W .any base t v := hval0
  have hL : laidMet Tryd.prog Rows.fnExactUnitTextRow.laid W := by rw [← MakeChecks.laidMetH_plain _ _ _ plain]; exact hL0
  have hWhole := hW
  obtain ⟨p, q, hA0, hV, rfl, hfz, hnd⟩ := hW
  have hA : DataW.TrodAll enc Tryd.prog W 0 (fun _ => true) true Tryd.f4.params.toList args.toList ds p := hA0
  rw [Tryd.params4] at hA hval
  clear hA0 hval0 hL0
  obtain ⟨v0, d0, rfl, rfl, h0⟩ := trodAll_one hA
  obtain ⟨k, hVk, hmk⟩ := open_Un Tryd.underlying24 (opn_Un Tryd.underlying24 (by kernel_rfl) (by kernel_rfl) (opn_CdS (opn_Cd Tryd.underlying75 (by kernel_rfl) (by kernel_rfl) Tryd.underlying3 Tryd.underlying3 (opn_BkS (opn_Bk Tryd.underlying132 (by kernel_rfl) (by kernel_rfl) (opn_PhS (opn_Ph Tryd.underlying166 (by kernel_rfl) (by kernel_rfl) Tryd.underlying3 (opn_nums Tryd.underlying3 (by kernel_rfl) Tryd.underlying48)) (by kernel_rfl) Tryd.underlying129) (opn_IkS (opn_Ik Tryd.underlying168 (by kernel_rfl) (by kernel_rfl) Tryd.underlying3 Tryd.underlying3 (opn_nums Tryd.underlying3 (by kernel_rfl) Tryd.underlying48) Tryd.underlying3) (by kernel_rfl) Tryd.underlying130) Tryd.underlying3 Tryd.underlying3 (opn_nums Tryd.underlying3 (by kernel_rfl) Tryd.underlying48)) (by kernel_rfl) Tryd.underlying73)) (by kernel_rfl) Tryd.underlying22)) (hval 0 24 v0 rfl rfl) h0
  have T0 : PowT W := powT_of_laid hL (by simp [Rows.fnExactUnitTextRow])
  have T1 : InsT W := insT_of_laid hL (by simp [Rows.fnExactUnitTextRow])
  have T2 : JmpT W := jmpT_of_laid hL (by simp [Rows.fnExactUnitTextRow])
  obtain ⟨g1, g2, rfl⟩ : ∃ g1 g2, gs = [g1, g2] := vars_two hV
  refine (fnExactUnitText_walk k v0 W hVk hmk T0 T1 T2).mono fun e W' ⟨he, hb⟩ => ⟨_, he, ?_⟩
  exact law_post laidOut (by kernel_rfl) (by kernel_rfl) (by kernel_rfl) Tryd.underlying4 rfl hWhole hb
theorem row_holds : Rows.FnExactUnitTextSaid :=
  OpenClaim.holds_of_wide 4 Tryd.f4 rfl rfl rfl rfl rfl rfl rfl ⟨rfl, rfl, rfl, rfl, rfl⟩ rfl rfl rfl rfl rfl (by kernel_rfl) Tryd.func4 (by kernel_rfl)
    (of_decide_eq_true (by kernel_rfl)) (by unfold Func.isWrapper; first | (rw [if_pos (by decide +kernel)]; kernel_rfl) | (rw [if_neg (by decide +kernel)]; exact ⟨rfl, rfl⟩))
    (fun os started H enc _ => lifted os started H enc)
theorem holds : Rows.FnExactUnitTextCardSaid :=
  Claim7.holds_tied_plain_at .later [] Rows.fnExactUnitTextCard.laidKinds true Rows.fnExactUnitTextCard.stood.harness Rows.fnExactUnitTextCard.stood.looks
    row_holds (fun _ h => by cases h) (by kernel_rfl) (fun _ h => by cases h) fnExactUnitText_row_tie rfl ⟨rfl, rfl⟩ (by kernel_rfl) rfl
    (fun f fn hf hfn => by
      obtain rfl : f = 4 := Option.some.inj ((show Tryd.prog.funcNamed Rows.fnExactUnitTextRow.func = some 4 by kernel_rfl).symm.trans hf) |>.symm
      obtain rfl : fn = Tryd.f4 := (Option.some.inj (Tryd.func4.symm.trans hfn)).symm
      exact ⟨by kernel_rfl, fun j t ht => by
        have hall : (Tryd.f4.params.toList.all fun u => !Tryd.prog.wantsStandIn u) = true := by kernel_rfl
        exact (show Tryd.prog.wantsStandIn t = false by simpa using List.all_eq_true.1 hall t (by simpa using Array.mem_of_getElem? ht))⟩)
    (by kernel_rfl)
#print axioms holds
end ExUnitText
end Go.Proofs.YtomhomnibikceaaDoor
