/-
  For every two programs the model's SamePrograms and the program's SamePrograms answer alike, and nothing that was there turns. No conditions.
-/
import Derived.Test.YtljdbjfbcjigaaaJH
import Derived.Test.YtljdbjfbcjigaaaP3
import Derived.Test.YtljdbjfbcjigaaaLaw
import Derived.Test.YtljdbjfbcjigaaaRows
import Derived.ShapedOpen
namespace Go.Proofs.Ytljdbjfbcjigaaa
open Go.ChangeShapes Go.WideShapes Go.ChangeAt Go.RowKit Go.WideMaps
open Go.ChangeMaps (open_string)
set_option maxRecDepth 100000

namespace ExSamePrograms
theorem lifted (os : Os) (started : os.Started) (H : Type) (enc : TypeId × Value → H) :
    ReturnsInHanded {} Try.checked os 3 .any (Rows.fnExactSameProgramsSpec.pre6 enc Try.prog Try.f3 Rows.fnExactSameProgramsRow.domain false)
      (Rows.fnExactSameProgramsSpec.post enc Try.prog Try.f3 false true false false) := by
  refine returnsInHanded_of_change (C := Try.checked) (by kernel_rfl) started (by kernel_rfl) Try.func3
    (ChangeSpec.witness6 (enc := enc) (C := Try.checked) false ⟨#[], #[.agg #[.slice none 0 0], .agg #[.slice none 0 0]], []⟩ 8 (by kernel_rfl) (by kernel_rfl) (by kernel_rfl) (by kernel_rfl)) ?_
  intro W base args ds gs before hval0 hW _ _
  have hval : ∀ (j : Nat) t v, Try.f3.params[j]? = some t → args[j]? = some v → Value.okWide Try.prog W .any base t v := hval0
  have hWhole := hW
  obtain ⟨p, q, hA0, hV, rfl, hfz, hnd⟩ := hW
  have hA : DataW.TrodAll enc Try.prog W 0 (fun _ => true) true Try.f3.params.toList args.toList ds p := hA0
  rw [Try.params3] at hA hval
  clear hA0 hval0
  obtain ⟨v0, v1, d0, d1, p0, p1, rfl, rfl, rfl, h0, h1⟩ := trodAll_two hA
  obtain ⟨rfl, rfl⟩ := trodVars_none hV
  obtain ⟨k, hV', hm⟩ := open_program Try.underlying90 (by kernel_rfl) (by kernel_rfl) Try.underlying3 Try.underlying3 Try.underlying9 Try.underlying71
    Try.underlying73 (by kernel_rfl) (by kernel_rfl) Try.underlying3 Try.underlying9 Try.underlying71 Try.underlying44 Try.underlying44
    Try.underlying46 (by kernel_rfl) (by kernel_rfl) Try.underlying9 Try.underlying33 Try.underlying9 (by kernel_rfl) Try.underlying44
    Try.underlying24 (by kernel_rfl) (by kernel_rfl) Try.underlying22 (hval 0 24 v0 rfl rfl) h0
  obtain ⟨k', hU', hn⟩ := open_program Try.underlying90 (by kernel_rfl) (by kernel_rfl) Try.underlying3 Try.underlying3 Try.underlying9 Try.underlying71
    Try.underlying73 (by kernel_rfl) (by kernel_rfl) Try.underlying3 Try.underlying9 Try.underlying71 Try.underlying44 Try.underlying44
    Try.underlying46 (by kernel_rfl) (by kernel_rfl) Try.underlying9 Try.underlying33 Try.underlying9 (by kernel_rfl) Try.underlying44
    Try.underlying24 (by kernel_rfl) (by kernel_rfl) Try.underlying22 (hval 1 24 v1 rfl rfl) h1
  refine (fnExactSamePrograms_walk k k' v0 v1 W hV' hm hU' hn).mono fun e W' ⟨he, hb⟩ => ⟨_, he, ?_⟩
  exact law_post (by kernel_rfl) (by kernel_rfl) (by kernel_rfl) (by kernel_rfl) Try.underlying4 rfl hWhole hb
theorem row_holds : Rows.FnExactSameProgramsSaid :=
  OpenClaim.holds_of_wide 3 Try.f3 rfl rfl rfl rfl rfl rfl rfl ⟨rfl, rfl, rfl, rfl, rfl⟩ rfl rfl rfl rfl rfl (by kernel_rfl) Try.func3 (by kernel_rfl)
    (of_decide_eq_true (by kernel_rfl)) (by unfold Func.isWrapper; first | (rw [if_pos (by decide +kernel)]; kernel_rfl) | (rw [if_neg (by decide +kernel)]; exact ⟨rfl, rfl⟩))
    (fun os started H enc _ => lifted os started H enc)
end ExSamePrograms
end Go.Proofs.Ytljdbjfbcjigaaa
