/-
  The survey of statements: the program.
-/
import Derived.Test.YtkgfamagienfpaaDoorV7
import Derived.Test.YtkgfamagienfpaaDoorV2
namespace Go.Proofs.YtkgfamagienfpaaDoor
open Go.RowKit
set_option maxRecDepth 100000

/-- A survey in memory of the call's own. -/
def SurvAt (w : World) (g m c d : Nat) : Prop := w.heap[g]? = some (.cells #[.int .i64 (m : Int), .int .i64 (c : Int), .int .i64 (d : Int)] 66 (0, 0))
theorem SurvAt.lt {w : World} {g m c d : Nat} (h : SurvAt w g m c d) : g < w.heap.size := (Array.getElem?_eq_some_iff.1 h).1
theorem SurvAt.cells {w : World} {g m c d : Nat} (h : SurvAt w g m c d) : w.cell? ⟨g, 0, none⟩ = some (.int .i64 (m : Int)) ∧ w.cell? ⟨g, 1, none⟩ = some (.int .i64 (c : Int)) ∧ w.cell? ⟨g, 2, none⟩ = some (.int .i64 (d : Int)) := by
  unfold SurvAt at h
  refine ⟨?_, ?_, ?_⟩ <;> (unfold World.cell?; rw [h]; rfl)
theorem SurvAt.free {w : World} {g m c d : Nat} (h : SurvAt w g m c d) (o : Nat) : w.frozen? ⟨g, o, none⟩ = false := frozen_of_row _ _ o _ _ h
theorem SurvAt.set1 {w : World} {g m c d : Nat} (h : SurvAt w g m c d) (c' : Nat) : SurvAt (w.setCell ⟨g, 1, none⟩ (.int .i64 (c' : Int))) g m c' d := by
  unfold SurvAt at h ⊢
  unfold World.setCell
  dsimp only
  rw [Array.getElem?_modify, if_pos rfl, h]
  rfl
theorem SurvAt.set2 {w : World} {g m c d : Nat} (h : SurvAt w g m c d) (d' : Nat) : SurvAt (w.setCell ⟨g, 2, none⟩ (.int .i64 (d' : Int))) g m c d' := by
  unfold SurvAt at h ⊢
  unfold World.setCell
  dsimp only
  rw [Array.getElem?_modify, if_pos rfl, h]
  rfl
theorem SurvAt.below {w w' : World} {g m c d : Nat} (h : SurvAt w g m c d) (hb : Below w.heap.size w w') : SurvAt w' g m c d := by
  have hl := h.lt
  unfold SurvAt at h ⊢
  rw [hb.block g hl]; exact h
/-- The program's tables stood there before block g. -/
def TBase (g : Nat) (w : World) : Prop := ∃ w0, Tabs w0 ∧ Sgn w0 ∧ Fms w0 ∧ w0.heap.size ≤ g ∧ Below w0.heap.size w0 w
theorem TBase.get {g : Nat} {w : World} (h : TBase g w) : Tabs w ∧ Sgn w ∧ Fms w := by
  obtain ⟨w0, h1, h2, h3, _, h5⟩ := h
  exact ⟨h1.below h5, h2.below h5, h3.below h5⟩
theorem TBase.on {g : Nat} {w w' : World} (h : TBase g w) (hb : Below g w w') : TBase g w' := by
  obtain ⟨w0, h1, h2, h3, h4, h5⟩ := h
  exact ⟨w0, h1, h2, h3, h4, h5.trans (hb.mono h4)⟩
theorem Touch.set {g : Nat} {w w' : World} (h : Touch g w w') (o : Nat) (v : Value) : Touch g w (w'.setCell ⟨g, o, none⟩ v) := by
  refine ⟨h.below.setCell (p := ⟨g, o, none⟩) (Nat.le_refl _) _, fun k h1 h2 => ?_⟩
  rw [← h.above k h1 h2]
  unfold World.setCell
  dsimp only
  rw [Array.getElem?_modify, if_neg (by omega)]
theorem Touch.then {g : Nat} {w w1 w2 : World} (h : Touch g w w1) (hb : Below w1.heap.size w1 w2) (hg : g < w1.heap.size) : Touch g w w2 := h.trans (.of_below hb hg)
/-- Blocks that are there, but for g. -/
def Ne (g N : Nat) : Nat → Prop := fun b => b ≠ g ∧ b < N
theorem touch_keep {g : Nat} {w w' : World} (h : Touch g w w') : ∀ b o, Ne g w.heap.size b → w'.cell? ⟨b, o, none⟩ = w.cell? ⟨b, o, none⟩ := by
  intro b o hb
  by_cases hlt : b < g
  · exact h.below.cell (p := ⟨b, o, none⟩) hlt
  · exact h.cell (Nat.lt_of_le_of_ne (Nat.le_of_not_lt hlt) (fun e => hb.1 e.symm)) hb.2
/-- What a survey leaves. -/
def FitsRet (g : Nat) (b : Bool) (m c' d' : Nat) (w : World) (ee : Ending) (w' : World) : Prop := ee = .returned (.bool b) ∧ Touch g w w' ∧ ∃ c d, SurvAt w' g m c d ∧ (b = true → c = c' ∧ d = d')
theorem survey_empty (g m c e d : Nat) (A : Option Addr) (cap : Nat) (w : World) (nest : Int) (hS : SurvAt w g m c e) (hc : c ≤ m) (he : 4 - d ≤ e) (_hd : d ≤ 4) :
    Calls Tryd.prog 35 #[.pointer (some ⟨g, 0, none⟩), .slice A ([] : List St).length cap, .int .i64 nest] w (FitsRet g (([] : List St).all (formT d) && decide (c + sizeTL [] ≤ m)) m (c + sizeTL []) (max e (4 - d + nestTL [])) w) := by
  have HR := Lib.hid (show (([] : List St).all (formT d) && decide (c + sizeTL [] ≤ m)) = true by rw [Bool.and_eq_true]; exact ⟨rfl, decide_eq_true hc⟩)
  have HE := Lib.hid (And.intro hS he)
  clear hS hc he
  go_enter Tryd.func35, Tryd.ntmps35
  go_wp2_with fail
  go_ret
  exact ⟨by rw [HR.out]; rfl, Touch.refl _ _, c, e, HE.out.1, fun _ => ⟨rfl, by show e = max e (4 - d + 0); have := HE.out.2; omega⟩⟩
theorem survey_deep (g m c e : Nat) (ks : List St) (hne : ks ≠ []) (A : Option Addr) (cap : Nat) (w : World) (hS : SurvAt w g m c e) (hn : ks.length ≤ 1048577) :
    Calls Tryd.prog 35 #[.pointer (some ⟨g, 0, none⟩), .slice A ks.length cap, .int .i64 5] w (FitsRet g (ks.all (formT 0) && decide (c + sizeTL ks ≤ m)) m (c + sizeTL ks) (max e (4 - 0 + nestTL ks)) w) := by
  have HR := Lib.hid (show (ks.all (formT 0) && decide (c + sizeTL ks ≤ m)) = false by rw [all_bad (i := 0) (List.length_pos_iff.2 hne) rfl]; rfl)
  have hpos : 0 < ks.length := List.length_pos_iff.2 hne
  have q0 : ((ks.length : Int) == 0) = false := beq_no (by omega)
  have HE := Lib.hid hS
  clear hS
  go_enter Tryd.func35, Tryd.ntmps35
  go_wp2_with fail
  go_ret
  exact ⟨by rw [HR.out]; rfl, Touch.refl _ _, c, e, HE.out, fun h => by rw [HR.out] at h; cases h⟩
def SurvOk (d : Nat) : Prop := ∀ (ks : List St) (g m c e : Nat) (A : Option Addr) (cap : Nat) (w : World), SurvAt w g m c e → TBase g w → StS w (Ne g w.heap.size) ks A → bulkTL ks ≤ 1048577 → c ≤ m → c + sizeTL ks ≤ 4000000 → 4 - d ≤ e → m ≤ 9223372036854775807 →
  Calls Tryd.prog 35 #[.pointer (some ⟨g, 0, none⟩), .slice A ks.length cap, .int .i64 (5 - d : Int)] w (FitsRet g (ks.all (formT d) && decide (c + sizeTL ks ≤ m)) m (c + sizeTL ks) (max e (4 - d + nestTL ks)) w)
theorem survOk_zero : SurvOk 0 := by
  intro ks g m c e A cap w hS _ _ hbk hc _ he _
  by_cases hne : ks = []
  · subst hne
    exact survey_empty g m c e 0 A cap w _ hS hc he (by omega)
  · exact survey_deep g m c e ks hne A cap w hS (by have := length_le_bulkTL ks; omega)
end Go.Proofs.YtkgfamagienfpaaDoor
