/-
  UsesOf of the model.
-/
import Derived.Test.YtjiimcbfniknoaaQA
namespace Go.Proofs.Ytjiimcbfniknoaa
open Go.RowKit
set_option maxRecDepth 100000

theorem usesTo_len (l : List Int) (k : Nat) : (usesTo l k).length ≤ l.length := by
  unfold usesTo
  have := foldl_len (l.take k) []
  rw [List.length_take] at this
  simp only [List.length_nil] at this
  omega
def PRetS (l : List Int) (w : World) (e : Ending) (w' : World) : Prop := (∃ v, e = .returned v ∧ OwnS w.heap.size w' l v) ∧ Below w.heap.size w w'
set_option maxHeartbeats 4000000 in
theorem specUses_any (l : List Int) (hn : l.length ≤ 1048576) (op to nn : Int) (A : Option Addr) (cap : Nat) (w : World) (hR : NumS w (Lt w.heap.size) l A) :
    Calls Try.prog 7 #[.agg #[.int .i64 op, .int .i64 to, .slice A l.length cap, .int .i64 nn]] w (PRetS (usesTo l l.length) w) := by
  have HR := Lib.hid hR
  clear hR
  have K0 := Lib.hid (BoxV.new w [.int .i64 op, .int .i64 to, .slice A l.length cap, .int .i64 nn] 27)
  have hb0 : Below w.heap.size w (w.alloc (.cells #[.int .i64 op, .int .i64 to, .slice A l.length cap, .int .i64 nn] 27)) := (Below.refl _ _).alloc (Nat.le_refl _) _
  have hl0 : w.heap.size < (w.alloc (.cells #[.int .i64 op, .int .i64 to, .slice A l.length cap, .int .i64 nn] 27)).heap.size := by rw [World.size_alloc]; omega
  go_enter Try.func7, Try.ntmps7
  go_wp2_with fail
  have e0 : w.alloc (.cells [.int .i64 op, .int .i64 to, .slice A l.length cap, .int .i64 nn].toArray 27) = w.alloc (.cells #[.int .i64 op, .int .i64 to, .slice A l.length cap, .int .i64 nn] 27) := rfl
  rw [e0] at K0
  clear e0
  have sz : (w.alloc (.cells #[.int .i64 op, .int .i64 to, .slice A l.length cap, .int .i64 nn] 27)).heap.size = w.heap.size + 1 := World.size_alloc _ _
  generalize w.alloc (.cells #[.int .i64 op, .int .i64 to, .slice A l.length cap, .int .i64 nn] 27) = wa at *
  have HE0 := Lib.hid (show OwnS wa.heap.size (wa.alloc (.cells #[] 3)) (usesTo l 0) (.slice (some ⟨w.heap.size + 1, 0, none⟩) 0 0) from ⟨by rw [← sz]; exact ownN_empty wa.heap.size wa (Nat.le_refl _), by simp⟩)
  have hbe : Below wa.heap.size wa (wa.alloc (.cells #[] 3)) := (Below.refl _ _).alloc (Nat.le_refl _) _
  go_loopw [3, 4] (fun v i wr => ∃ (k : Nat), k ≤ l.length ∧ i = .int .i64 k ∧ OwnS wa.heap.size wr (usesTo l k) v ∧ Below wa.heap.size wa wr) (fun _ i _ => l.length - (intOf i).toNat)
  case atStart => exact ⟨0, Nat.zero_le _, rfl, HE0.out, hbe⟩
  case round =>
    clear HE0 hbe
    obtain ⟨k, hk, rfl, hown, hb1⟩ := hrel
    have HO := Lib.hid hown
    clear hown
    have hb := hb0.trans (hb1.mono (Nat.le_of_lt hl0))
    have hbs := hb.size
    have hbs1 := hb1.size
    have k2 := K0.out.below hb1 hl0 2 _ rfl
    by_cases hlt : k < l.length
    · obtain ⟨bb, o, rfl, hB, c0⟩ := (HR.out.on hb hbs).at_ hlt
      have HS := Lib.hid (usesTo_succ hlt)
      have CI := Lib.hid (l7Insert_any wa.heap.size (usesTo l k) (Nat.le_trans (usesTo_len l k) hn) _ l[k] wr HO.out hbs1)
      generalize l[k] = y at *
      go_wp2_with fail
      (with_reducible refine Calls.mono CI.out ?_)
      rintro e w2 ⟨⟨v2, rfl, ho2⟩, hb2⟩
      have HO2 := Lib.hid (show OwnS wa.heap.size w2 (usesTo l (k + 1)) v2 by rw [HS.out]; exact ho2)
      have hb3 := hb1.trans (hb2.mono hbs1)
      clear CI ho2 hb2 HS
      go_wp2_with fail
      go_roundw
      case rel => exact ⟨k + 1, by omega, by go_num, HO2.out, hb3⟩
      case measure => simp only [intOf]; omega
    · obtain rfl : k = l.length := by omega
      have HE := Lib.hid (show PRetS (usesTo l l.length) w _ wr from ⟨⟨_, rfl, HO.out.1.base (Nat.le_of_lt hl0), HO.out.2⟩, hb⟩)
      go_wp2_with fail
      go_ret
      exact HE.out
end Go.Proofs.Ytjiimcbfniknoaa
