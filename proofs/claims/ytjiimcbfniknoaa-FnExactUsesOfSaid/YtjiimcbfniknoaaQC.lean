/-
  UsesOf of the program, of nil too.
-/
import Derived.Test.YtjiimcbfniknoaaQB
import Derived.Shelf.Slices.In.Clone
import Derived.Shelf.Slices.In.SortNone
namespace Go.Proofs.Ytjiimcbfniknoaa
open Go.RowKit
set_option maxRecDepth 100000

theorem clone_nil (n c : Nat) (w : World) : Calls Try.prog 29 #[.slice none n c] w fun e w' => e = .returned (.slice none 0 0) ∧ w' = w :=
  Go.calls_of_every_depth fun D => AnyS.slices_Clone_int_nil_in Try.laysNm215 D n c w
theorem sort_nil (w : World) : Calls Try.prog 30 #[.slice none 0 0] w fun e w' => e = .returned (.tuple #[]) ∧ w' = w :=
  Any.slices_Sort_int_none Try.lays189 none 0 w
theorem compact_nil (w : World) : Calls Try.prog 31 #[.slice none 0 0] w fun e w' => e = .returned (.slice none 0 0) ∧ w' = w :=
  Any.slices_Compact_int_empty Try.laysNm220 none 0 w
set_option maxHeartbeats 2000000 in
theorem implUses_nil (op to nn : Int) (c : Nat) (w : World) :
    Calls Try.prog 9 #[.agg #[.int .i64 op, .int .i64 to, .slice none 0 c, .int .i64 nn]] w (PRet [] w) := by
  have hb := (Below.refl w.heap.size w).alloc (Nat.le_refl _) (.cells #[.int .i64 op, .int .i64 to, .slice none 0 c, .int .i64 nn] 27)
  have HE := Lib.hid (show PRet [] w (.returned (.slice none 0 0)) (w.alloc (.cells #[.int .i64 op, .int .i64 to, .slice none 0 c, .int .i64 nn] 27)) from ⟨⟨_, rfl, ownN_nil _ _⟩, hb⟩)
  clear hb
  go_enter Try.func9, Try.ntmps9
  go_wp2_with fail
  (with_reducible refine Calls.mono (clone_nil _ _ _) ?_)
  rintro e w1 ⟨rfl, rfl⟩
  go_wp2_with fail
  (with_reducible refine Calls.mono (sort_nil _) ?_)
  rintro e w1 ⟨rfl, rfl⟩
  go_wp2_with fail
  (with_reducible refine Calls.mono (compact_nil _) ?_)
  rintro e w1 ⟨rfl, rfl⟩
  go_wp2_with fail
  go_ret
  exact HE.out
/-- Of whatever row. -/
theorem implUses_all (l : List Int) (hn : l.length ≤ 1048576) (op to nn : Int) (A : Option Addr) (c : Nat) (w : World) (hR : NumS w (Lt w.heap.size) l A) :
    Calls Try.prog 9 #[.agg #[.int .i64 op, .int .i64 to, .slice A l.length c, .int .i64 nn]] w (PRet (usesTo l l.length) w) := by
  cases A with
  | some a => exact implUses_any l hn op to nn a c w hR
  | none =>
    rcases hR with rfl | ⟨b, o, e, _⟩
    · exact implUses_nil op to nn c w
    · cases e
end Go.Proofs.Ytjiimcbfniknoaa
