/-
  For every two units, valid or not, the model's SameUnits and the program's SameUnits answer alike, and nothing that was there turns. No conditions.
-/
import Derived.Test.YtjiimcbfniknoaaQM
import Derived.Test.YtjiimcbfniknoaaNE
import Derived.Test.YtjiimcbfniknoaaLaw
import Derived.Test.YtjiimcbfniknoaaRows
import Derived.ShapedOpen
namespace Go.Proofs.Ytjiimcbfniknoaa
open Go.ChangeShapes Go.WideShapes Go.ChangeAt Go.RowKit Go.WideMaps
open Go.ChangeMaps (open_string)
set_option maxRecDepth 100000

namespace ExSameUnits
theorem lifted (os : Os) (started : os.Started) (H : Type) (enc : TypeId × Value → H) :
    ReturnsInHanded {} Try.checked os 5 .any (Rows.fnExactSameUnitsSpec.pre6 enc Try.prog Try.f5 Rows.fnExactSameUnitsRow.domain false)
      (Rows.fnExactSameUnitsSpec.post enc Try.prog Try.f5 false true false false) := by
  refine returnsInHanded_of_change (C := Try.checked) (by kernel_rfl) started (by kernel_rfl) Try.func5
    (ChangeSpec.witness6 (enc := enc) (C := Try.checked) false ⟨#[], #[.agg #[.slice none 0 0], .agg #[.slice none 0 0]], []⟩ 8 (by kernel_rfl) (by kernel_rfl) (by kernel_rfl) (by kernel_rfl)) ?_
  intro W base args ds gs before hval0 hW _ _
  have hval : ∀ (j : Nat) t v, Try.f5.params[j]? = some t → args[j]? = some v → Value.okWide Try.prog W .any base t v := hval0
  have hWhole := hW
  obtain ⟨p, q, hA0, hV, rfl, hfz, hnd⟩ := hW
  have hA : DataW.TrodAll enc Try.prog W 0 (fun _ => true) true Try.f5.params.toList args.toList ds p := hA0
  rw [Try.params5] at hA hval
  clear hA0 hval0
  obtain ⟨v0, v1, d0, d1, p0, p1, rfl, rfl, rfl, h0, h1⟩ := trodAll_two hA
  obtain ⟨rfl, rfl⟩ := trodVars_none hV
  obtain ⟨k, hVk, hmk⟩ := open_Un Try.underlying48 (opn_Un Try.underlying48 (by kernel_rfl) (by kernel_rfl) (opn_CdS (opn_Cd Try.underlying36 (by kernel_rfl) (by kernel_rfl) Try.underlying3 Try.underlying3 (opn_BkS (opn_Bk Try.underlying80 (by kernel_rfl) (by kernel_rfl) (opn_PhS (opn_Ph Try.underlying118 (by kernel_rfl) (by kernel_rfl) Try.underlying3 (opn_nums Try.underlying3 (by kernel_rfl) Try.underlying22)) (by kernel_rfl) Try.underlying77) (opn_IkS (opn_Ik Try.underlying24 (by kernel_rfl) (by kernel_rfl) Try.underlying3 Try.underlying3 (opn_nums Try.underlying3 (by kernel_rfl) Try.underlying22) Try.underlying3) (by kernel_rfl) Try.underlying78) Try.underlying3 Try.underlying3 (opn_nums Try.underlying3 (by kernel_rfl) Try.underlying22)) (by kernel_rfl) Try.underlying34)) (by kernel_rfl) Try.underlying46)) (hval 0 48 v0 rfl rfl) h0
  obtain ⟨kk, hVkk, hmkk⟩ := open_Un Try.underlying48 (opn_Un Try.underlying48 (by kernel_rfl) (by kernel_rfl) (opn_CdS (opn_Cd Try.underlying36 (by kernel_rfl) (by kernel_rfl) Try.underlying3 Try.underlying3 (opn_BkS (opn_Bk Try.underlying80 (by kernel_rfl) (by kernel_rfl) (opn_PhS (opn_Ph Try.underlying118 (by kernel_rfl) (by kernel_rfl) Try.underlying3 (opn_nums Try.underlying3 (by kernel_rfl) Try.underlying22)) (by kernel_rfl) Try.underlying77) (opn_IkS (opn_Ik Try.underlying24 (by kernel_rfl) (by kernel_rfl) Try.underlying3 Try.underlying3 (opn_nums Try.underlying3 (by kernel_rfl) Try.underlying22) Try.underlying3) (by kernel_rfl) Try.underlying78) Try.underlying3 Try.underlying3 (opn_nums Try.underlying3 (by kernel_rfl) Try.underlying22)) (by kernel_rfl) Try.underlying34)) (by kernel_rfl) Try.underlying46)) (hval 1 48 v1 rfl rfl) h1
  refine (fnExactSameUnits_walk k kk v0 v1 W hVk hmk hVkk hmkk).mono fun e W' ⟨he, hb⟩ => ⟨_, he, ?_⟩
  exact law_post (by kernel_rfl) (by kernel_rfl) (by kernel_rfl) (by kernel_rfl) Try.underlying4 rfl hWhole hb
theorem row_holds : Rows.FnExactSameUnitsSaid :=
  OpenClaim.holds_of_wide 5 Try.f5 rfl rfl rfl rfl rfl rfl rfl ⟨rfl, rfl, rfl, rfl, rfl⟩ rfl rfl rfl rfl rfl (by kernel_rfl) Try.func5 (by kernel_rfl)
    (of_decide_eq_true (by kernel_rfl)) (by unfold Func.isWrapper; first | (rw [if_pos (by decide +kernel)]; kernel_rfl) | (rw [if_neg (by decide +kernel)]; exact ⟨rfl, rfl⟩))
    (fun os started H enc _ => lifted os started H enc)
end ExSameUnits
end Go.Proofs.Ytjiimcbfniknoaa
