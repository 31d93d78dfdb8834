/-
  For every two outcomes the model's SameOutcome and the program's SameOutcome answer alike, and nothing that was there turns. No conditions.
-/
import Derived.Test.YtkhcfhhejmkikaaOD
import Derived.Test.YtkhcfhhejmkikaaOO
import Derived.Test.YtkhcfhhejmkikaaLaw
import Derived.Test.YtkhcfhhejmkikaaRows
import Derived.ShapedOpen
namespace Go.Proofs.Ytkhcfhhejmkikaa
open Go.ChangeShapes Go.WideShapes Go.ChangeAt Go.RowKit Go.WideMaps
open Go.ChangeMaps (open_string)
set_option maxRecDepth 100000

namespace ExSameOutcome
theorem lifted (os : Os) (started : os.Started) (H : Type) (enc : TypeId × Value → H) :
    ReturnsInHanded {} Try.checked os 4 .any (Rows.fnExactSameOutcomeSpec.pre6 enc Try.prog Try.f4 Rows.fnExactSameOutcomeRow.domain false)
      (Rows.fnExactSameOutcomeSpec.post enc Try.prog Try.f4 false true false false) := by
  refine returnsInHanded_of_change (C := Try.checked) (by kernel_rfl) started (by kernel_rfl) Try.func4
    (ChangeSpec.witness6 (enc := enc) (C := Try.checked) false ⟨#[], #[.agg #[.slice none 0 0, .int .i64 0, .int .i64 0, .slice none 0 0], .agg #[.slice none 0 0, .int .i64 0, .int .i64 0, .slice none 0 0]], []⟩ 8 (by kernel_rfl) (by kernel_rfl) (by kernel_rfl) (by kernel_rfl)) ?_
  intro W base args ds gs before hval0 hW _ _
  have hval : ∀ (j : Nat) t v, Try.f4.params[j]? = some t → args[j]? = some v → Value.okWide Try.prog W .any base t v := hval0
  have hWhole := hW
  obtain ⟨p, q, hA0, hV, rfl, hfz, hnd⟩ := hW
  have hA : DataW.TrodAll enc Try.prog W 0 (fun _ => true) true Try.f4.params.toList args.toList ds p := hA0
  rw [Try.params4] at hA hval
  clear hA0 hval0
  obtain ⟨v0, v1, d0, d1, p0, p1, rfl, rfl, rfl, h0, h1⟩ := trodAll_two hA
  obtain ⟨rfl, rfl⟩ := trodVars_none hV
  obtain ⟨a, A, c, A2, c2, rfl, hR, hs⟩ := open_outcome Try.underlying34 (by kernel_rfl) (by kernel_rfl) Try.underlying32 Try.underlying3 Try.underlying3 Try.underlying32 Try.underlying3 (by kernel_rfl) (hval 0 34 v0 rfl rfl) h0
  obtain ⟨b, B, d, B2, d2, rfl, hR', hs'⟩ := open_outcome Try.underlying34 (by kernel_rfl) (by kernel_rfl) Try.underlying32 Try.underlying3 Try.underlying3 Try.underlying32 Try.underlying3 (by kernel_rfl) (hval 1 34 v1 rfl rfl) h1
  refine (fnExactSameOutcome_walk a A c A2 c2 b B d B2 d2 W hR hs hR' hs').mono fun e W' ⟨he, hb⟩ => ⟨_, he, ?_⟩
  exact law_post (by kernel_rfl) (by kernel_rfl) (by kernel_rfl) (by kernel_rfl) Try.underlying4 rfl hWhole hb
theorem row_holds : Rows.FnExactSameOutcomeSaid :=
  OpenClaim.holds_of_wide 4 Try.f4 rfl rfl rfl rfl rfl rfl rfl ⟨rfl, rfl, rfl, rfl, rfl⟩ rfl rfl rfl rfl rfl (by kernel_rfl) Try.func4 (by kernel_rfl)
    (of_decide_eq_true (by kernel_rfl)) (by unfold Func.isWrapper; first | (rw [if_pos (by decide +kernel)]; kernel_rfl) | (rw [if_neg (by decide +kernel)]; exact ⟨rfl, rfl⟩))
    (fun os started H enc _ => lifted os started H enc)
end ExSameOutcome
end Go.Proofs.Ytkhcfhhejmkikaa
