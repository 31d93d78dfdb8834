/-
  The law that words join just if all of them are valid, and are cut again: its walk.
-/
import Derived.Test.YtljoipgpkmdjbaaDoorCutLaw
import Derived.Test.YtljoipgpkmdjbaaDoorListW
import Derived.Test.YtljoipgpkmdjbaaDoorWW
import Derived.Test.YtljoipgpkmdjbaaDoorCutL2
import Derived.Test.YtljoipgpkmdjbaaDoorB0
namespace Go.Proofs.YtljoipgpkmdjbaaDoor
open Go.RowKit
set_option maxRecDepth 100000

/-- What drawing words leaves. -/
def WordsDraw (w : World) (e : Ending) (w' : World) : Prop := ∃ (A : Option Addr) (ws : List (Int × ByteArray)) (cap : Nat), ws.length ≤ 20 ∧ (∀ x ∈ ws, x.2.size ≤ 300) ∧ e = .returned (.slice A ws.length cap) ∧ Words w' w'.heap.size A ws ∧ Below w.heap.size w w'
set_option maxHeartbeats 1000000 in
theorem drawJoinWords_any (A : Option Addr) (l : List UInt8) (cap : Nat) (w : World) (h : Bytes w w.heap.size A l) (hn : l.length ≤ cap) (hcap : cap ≤ 9223372036854775807) :
    Calls Tryd.prog 14 #[.slice A l.length cap] w (WordsDraw w) := by
  have OP := Lib.hid (l30Open_any A l cap w h hn hcap)
  have LS := fun R W hR => Lib.hid (l1List_any R 0 W hR (by omega))
  clear h
  go_enter Tryd.func14, Tryd.ntmps14
  go_wp2_with fail
  refine OP.out.mono ?_
  rintro e w1 ⟨rfl, hR1, hb1⟩
  have LS1 := LS _ w1 hR1
  clear OP LS hR1
  go_wp2_with fail
  refine LS1.out.mono ?_
  rintro e w2 ⟨v, ws, hl, hs, rfl, hO, hd⟩
  obtain ⟨A2, cap2, rfl, hW⟩ := words_own hO
  have hb2 := hb1.trans hd.2.below
  clear LS1 hO hd hb1
  go_wp2
  go_ret
  exact ⟨A2, ws, cap2, hl, hs, rfl, hW, hb2⟩
/-- Are the first k words valid? -/
noncomputable def okTo (ws : List (Int × ByteArray)) : Nat → Bool
  | 0 => true
  | k + 1 => okTo ws k && validB (ws.getD k (0, ByteArray.empty)).1 (ws.getD k (0, ByteArray.empty)).2
theorem okTo_succ {ws : List (Int × ByteArray)} {k : Nat} (hk : k < ws.length) : okTo ws (k + 1) = (okTo ws k && validB ws[k].1 ws[k].2) := by
  show (okTo ws k && validB _ _) = _
  rw [List.getD_eq_getElem?_getD, List.getElem?_eq_getElem hk, Option.getD_some]
theorem okTo_iff {ws : List (Int × ByteArray)} : ∀ k, k ≤ ws.length → (okTo ws k = true ↔ validTo ws k)
  | 0, _ => ⟨fun _ j _ h => absurd h (Nat.not_lt_zero _), fun _ => rfl⟩
  | k + 1, hk => by
    rw [okTo_succ (by omega), Bool.and_eq_true, okTo_iff k (by omega)]
    exact ⟨fun h => validTo_succ h.1 (by omega) h.2, fun h => ⟨fun j hj hjk => h j hj (by omega), h k (by omega) (by omega)⟩⟩
theorem join_ok {ws : List (Int × ByteArray)} (hl : ws.length ≤ 20) :
    ∃ x, joinF ws = (x, okTo ws ws.length) ∧ x.size ≤ 3000 ∧ (okTo ws ws.length = true → cutRes x = (ws, true)) ∧ (okTo ws ws.length = false → x = ⟨#[]⟩) := by
  cases hv : okTo ws ws.length
  · refine ⟨⟨#[]⟩, ?_, by decide, (fun h => by cases h), (fun _ => rfl)⟩
    unfold joinF
    rw [if_neg]
    intro h
    rw [(okTo_iff _ (Nat.le_refl _)).2 h.2] at hv
    cases hv
  · have hvt : validTo ws ws.length := (okTo_iff _ (Nat.le_refl _)).1 hv
    have hva : ∀ x ∈ ws, validB x.1 x.2 = true := by
      intro x hx
      obtain ⟨j, hj, rfl⟩ := List.getElem_of_mem hx
      exact hvt j hj hj
    have ht : ws.take ws.length = ws := List.take_of_length_le (Nat.le_refl _)
    have hsz : (⟨(joinB ws).toArray⟩ : ByteArray).size = (joinB ws).length := by show (joinB ws).toArray.size = _; simp
    have h5 := joinB_len ws.length (Nat.le_refl _) hvt
    have hcl := cutL_join hva ws.length (Nat.le_refl _)
    rw [ht] at h5 hcl
    exact ⟨_, joinF_yes (by omega) hvt, by rw [hsz]; omega, fun _ => cutRes_yes (by rw [hsz]; omega) (by rw [cut_list]; simpa using hcl) (by omega), (fun h => by cases h)⟩
end Go.Proofs.YtljoipgpkmdjbaaDoor
