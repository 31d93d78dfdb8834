/-
  The program's ExprText.
-/
import Derived.Test.YtoepehlndljkoaaDoorFD
namespace Go.Proofs.YtoepehlndljkoaaDoor
open Go.RowKit
set_option maxRecDepth 100000

theorem wE_zero (e : E) : wE e 0 = wE e 1 := by rw [wE_bare e (Nat.zero_le _), wE_bare e (lvl_bd e.op).1]
theorem WRow.words {w : World} {base : Nat} {A : Option Addr} {cap : Nat} {l : List W} (h : WRow w base (.slice A l.length cap) l) : Words w w.heap.size A l := by
  rcases h.2 with ⟨e, h0⟩ | ⟨g, cap', cur, e, _⟩
  · rw [List.length_eq_zero_iff.1 h0]
    exact fun h => absurd rfl h
  · injection e with e1 _ e2
    subst e1 e2
    exact Words.of_own h
set_option maxHeartbeats 1000000 in
theorem implExprText_any (e : E) (A : Option Addr) (cap : Nat) (w : World) (hR : RdS w w.heap.size e.kids A) (hl : bulkE e ≤ 1048576) (T : Tabs w) (N : NTabs w) (G : Sgn w) :
    Calls Tryd.prog 8 #[exV e A cap] w (TextRet (textF e) w) := by
  have hsb := sizeE_bulk e
  obtain ⟨c0, c1, c2, c3, hlt, hb⟩ := box_cells w (.int .i64 e.op) (.int .i64 e.n) (.string e.name) (.slice A e.kids.length cap) 30
  have CV := implExprValid_any e A cap _ ((hR.below hb).more hb.size) hl (T.below hb) (G.below hb)
  cases hv : validE e
  · rw [hv] at CV
    unfold exV at *
    have HV := Lib.hid hv
    replace CV := Lib.hid CV
    clear hv hR T N G
    go_enter Tryd.func8, Tryd.ntmps8
    go_wp2_with ((go_at_call 11; (with_reducible refine Calls.mono CV.out ?_); rintro ee w1 ⟨rfl, hb1⟩; have hb2 := hb.trans (hb1.mono (Nat.le_of_lt hlt))))
    go_ret2
    exact ⟨by unfold textF; rw [HV.out]; rfl, hb2⟩
  · rw [hv] at CV
    have hw := text_words hv
    have hj := text_join hv
    rw [← wE_zero] at hw hj
    have AE := fun W (h : Below w.heap.size w W) => Lib.hid (addExpr_any 6 e (validE_form hv) A cap W w.heap.size (.slice none 0 0) [] (WRow.nil _ _) ⟨h.size, fun W' h' => ⟨G.below (h.trans h'), (N.below (h.trans h')).pow, T.below (h.trans h')⟩⟩ (hR.below h) (by have := validE_size hv; show 0 + _ ≤ _; omega))
    rw [List.nil_append] at AE
    unfold exV at *
    have HV := Lib.hid hv
    have HW := Lib.hid hw
    have HJ := Lib.hid hj
    replace CV := Lib.hid CV
    have TN := Lib.hid (And.intro (fun W h => T.below (w' := W) h) (fun W h => N.below (w' := W) h))
    clear hv hR T N G hw hj
    generalize wE e 0 = we at *
    go_enter Tryd.func8, Tryd.ntmps8
    go_wp2_with fail
    (with_reducible refine Calls.mono CV.out ?_)
    rintro ee w1 ⟨rfl, hb1⟩
    have k0 := (hb1.cell (p := ⟨w.heap.size, 0, none⟩) hlt).trans c0
    have k1 := (hb1.cell (p := ⟨w.heap.size, 1, none⟩) hlt).trans c1
    have k2 := (hb1.cell (p := ⟨w.heap.size, 2, none⟩) hlt).trans c2
    have k3 := (hb1.cell (p := ⟨w.heap.size, 3, none⟩) hlt).trans c3
    have hb2 := hb.trans (hb1.mono (Nat.le_of_lt hlt))
    have AE1 := Lib.hid (AE w1 hb2).out
    clear AE CV hb hb1
    go_wp2_with fail
    (with_reducible refine Calls.mono AE1.out ?_)
    rintro ee w3 ⟨v, rfl, hW3, hP3⟩
    obtain ⟨A3, cap3, rfl⟩ := hW3.slice
    have hb4 := hb2.trans hP3.below
    have JW := Lib.hid (implJoinWords_any A3 we cap3 w3 hW3.words (fun x hx => by have h := HW.out.1 x hx; have := validB_size h; omega) (by have := HW.out.2.1; omega) (TN.out.1 _ hb4) (TN.out.2 _ hb4))
    clear hW3 hP3 AE1 k0 k1 k2 k3
    go_wp2_with fail
    (with_reducible refine Calls.mono JW.out ?_)
    rintro ee w5 ⟨rfl, hb5⟩
    have hb6 := hb4.trans (hb5.mono hb4.size)
    go_wp2_with fail
    go_ret2
    exact ⟨by rw [HJ.out]; unfold textF; rw [HV.out]; rfl, hb6⟩
end Go.Proofs.YtoepehlndljkoaaDoor
