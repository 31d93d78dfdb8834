/-
  Outcomes: what the laws' helpers do with them, and what both sides answer on whether two are the same.
-/
import Derived.Test.YtkhcfhhejmkikaaDoorOA
import Derived.Test.YtkhcfhhejmkikaaDoorOX
namespace Go.Proofs.YtkhcfhhejmkikaaDoor
open Go.RowKit
set_option maxRecDepth 100000

/-- An outcome. -/
structure Oc where
  said : List Int
  en : Int
  val : Int
  cells : List Int
theorem Oc.ext' {o p : Oc} (h1 : o.said = p.said) (h2 : o.en = p.en) (h3 : o.val = p.val) (h4 : o.cells = p.cells) : o = p := by cases o; cases p; simp_all
def ocV (o : Oc) (A : Option Addr) (c : Nat) (A' : Option Addr) (c' : Nat) : Value := .agg #[.slice A o.said.length c, .int .i64 o.en, .int .i64 o.val, .slice A' o.cells.length c']
def bulkO (o : Oc) : Nat := o.said.length + o.cells.length
def SmO (o : Oc) : Prop := o.said.length ≤ maxLen ∧ o.cells.length ≤ maxLen
/-- An outcome can be read. -/
def OcR (w : World) (o : Oc) (A A' : Option Addr) : Prop := Ints w w.heap.size A o.said ∧ Ints w w.heap.size A' o.cells
theorem OcR.on {w w' : World} {o : Oc} {A A' : Option Addr} (h : OcR w o A A') (hb : Below w.heap.size w w') : OcR w' o A A' := ⟨h.1.on hb, h.2.on hb⟩
def sameO (o p : Oc) : Bool := decide (o.said = p.said) && decide (o.en = p.en) && decide (o.val = p.val) && decide (o.cells = p.cells)
def NumB (r : Int) (w : World) (ee : Ending) (w' : World) : Prop := ee = .returned (.int .i64 r) ∧ Below w.heap.size w w'
set_option maxHeartbeats 1000000 in
theorem szOutcome_any (o : Oc) (hm : SmO o) (A : Option Addr) (c : Nat) (A' : Option Addr) (c' : Nat) (w : World) (left : Int) (h0 : 0 ≤ left) (h1 : left ≤ 1048576) :
    Calls Tryd.prog 7 #[ocV o A c A' c', .int .i64 left] w (NumB (szR left (bulkO o)) w) := by
  obtain ⟨s, en, va, cl⟩ := o
  unfold ocV bulkO
  obtain ⟨m1, m2⟩ := hm
  dsimp only at *
  unfold maxLen at m1 m2
  have K0 := BoxV.new w [.slice A s.length c, .int .i64 en, .int .i64 va, .slice A' cl.length c'] 24
  have hb : Below w.heap.size w (w.alloc (.cells [.slice A s.length c, .int .i64 en, .int .i64 va, .slice A' cl.length c'].toArray 24)) := (Below.refl _ _).alloc (Nat.le_refl _) _
  have hlt : w.heap.size < (w.alloc (.cells [.slice A s.length c, .int .i64 en, .int .i64 va, .slice A' cl.length c'].toArray 24)).heap.size := by rw [World.size_alloc]; omega
  have S1 := fun W => szIntS_any A s.length c left W h0 h1 (by omega)
  have S2 := fun W r h0 h1 => Lib.hid (szIntS_any A' cl.length c' r W h0 h1 (by omega))
  have HG := Lib.hid (show ∀ r, szR left s.length = r → r = -1 → szR left (s.length + cl.length) = -1 from fun r h h' => by
    unfold szR at *
    split at h
    · rw [if_pos (by omega)]
    · omega)
  by_cases ha : left < s.length
  · have e1 : szR left s.length = -1 := if_pos ha
    have e2 : szR left (s.length + cl.length) = -1 := if_pos (by omega)
    rw [e1] at S1
    rw [e2]
    have S1 := fun W => Lib.hid (S1 W)
    clear S2 HG e1 e2 ha
    go_enter Tryd.func7, Tryd.ntmps7
    go_wp2_with fail
    (with_reducible refine Calls.mono (S1 _).out ?_)
    rintro ee w1 ⟨rfl, hb1⟩
    have hb2 := hb.trans (hb1.mono (Nat.le_of_lt hlt))
    clear hb1 hb
    go_wp2_with fail
    go_ret
    exact ⟨rfl, hb2⟩
  · have e1 : szR left s.length = left - s.length := if_neg ha
    rw [e1] at S1
    have S1 := fun W => Lib.hid (S1 W)
    have hge : (0 : Int) ≤ left - s.length := by omega
    have S2 := fun W => S2 W (left - s.length) hge (by omega)
    have HK := Lib.hid K0
    clear HG e1 ha
    by_cases hc : left - s.length < cl.length
    · have e1 : szR (left - s.length) cl.length = -1 := if_pos hc
      have e2 : szR left (s.length + cl.length) = -1 := if_pos (by omega)
      rw [e1] at S2
      rw [e2]
      clear e1 e2 hc
      go_enter Tryd.func7, Tryd.ntmps7
      go_wp2_with fail
      (with_reducible refine Calls.mono (S1 _).out ?_)
      rintro ee w1 ⟨rfl, hb1⟩
      have k3 := (HK.out.below hb1 hlt) 3 _ rfl
      have hb2 := hb.trans (hb1.mono (Nat.le_of_lt hlt))
      clear hb1 hb
      go_wp2_with fail
      (with_reducible refine Calls.mono (S2 _).out ?_)
      rintro ee w2 ⟨rfl, hb3⟩
      have hb4 := hb2.trans (hb3.mono hb2.size)
      clear hb3 hb2
      go_wp2_with fail
      go_ret
      exact ⟨rfl, hb4⟩
    · have e1 : szR (left - s.length) cl.length = left - s.length - cl.length := if_neg hc
      have e2 : szR left (s.length + cl.length) = left - s.length - cl.length := by unfold szR; rw [if_neg (by omega)]; omega
      have hge2 : (0 : Int) ≤ left - s.length - cl.length := by omega
      rw [e1] at S2
      rw [e2]
      clear e1 e2 hc
      go_enter Tryd.func7, Tryd.ntmps7
      go_wp2_with fail
      (with_reducible refine Calls.mono (S1 _).out ?_)
      rintro ee w1 ⟨rfl, hb1⟩
      have k3 := (HK.out.below hb1 hlt) 3 _ rfl
      have hb2 := hb.trans (hb1.mono (Nat.le_of_lt hlt))
      clear hb1 hb
      go_wp2_with fail
      (with_reducible refine Calls.mono (S2 _).out ?_)
      rintro ee w2 ⟨rfl, hb3⟩
      have hb4 := hb2.trans (hb3.mono hb2.size)
      clear hb3 hb2
      go_wp2_with fail
      go_ret
      exact ⟨rfl, hb4⟩
def ToORet (o : Oc) (w : World) (ee : Ending) (w' : World) : Prop := (∃ B B', ee = .returned (.agg #[.slice B o.said.length o.said.length, .int .i64 o.en, .int .i64 o.val, .slice B' o.cells.length o.cells.length]) ∧ OcR w' o B B') ∧ Below w.heap.size w w'
theorem Ints.put {w : World} {b o : Nat} {xs : List Int} {g : Nat} {B : Nat} (h : Ints w B (some ⟨b, o, none⟩) xs) (hg : b ≠ g) (j : Nat) (v : Value) : Ints (w.setCell ⟨g, j, none⟩ v) B (some ⟨b, o, none⟩) xs := by
  intro hne
  obtain ⟨b', o', e, hb, hc⟩ := h hne
  injection e with e
  injection e with e1 e2
  subst e1; subst e2
  exact ⟨b, o, rfl, hb, fun k hk => (World.cell?_setCell_other _ _ _ _ (by intro e; injection e with e; exact hg e.symm)).trans (hc k hk)⟩
set_option maxHeartbeats 4000000 in
theorem toOutcome_any (o : Oc) (hbk : bulkO o ≤ 1048576) (A : Option Addr) (c : Nat) (A' : Option Addr) (c' : Nat) (w : World) (hR : OcR w o A A') :
    Calls Tryd.prog 9 #[ocV o A c A' c'] w (ToORet o w) := by
  obtain ⟨s, en, va, cl⟩ := o
  unfold ocV ToORet
  unfold bulkO at hbk
  obtain ⟨r1, r2⟩ := hR
  dsimp only at *
  have CA := fun W (h : Below w.heap.size w W) => Lib.hid (toIntS_any s (by omega) A c W (r1.on h))
  have CB := fun W (h : Below w.heap.size w W) => Lib.hid (toIntS_any cl (by omega) A' c' W (r2.on h))
  clear r1 r2 hbk
  have T0 := Lib.hid (TriB.new w [.slice A s.length c, .int .i64 en, .int .i64 va, .slice A' cl.length c'] [.slice none 0 0, .int .i64 0, .int .i64 0, .slice none 0 0] [.slice none 0 0, .int .i64 0, .int .i64 0, .slice none 0 0] 24 27 27)
  go_enter Tryd.func9, Tryd.ntmps9
  go_wp2_with fail
  refine Calls.mono (CA _ T0.out.below).out ?_
  rintro ee w1 ⟨rfl, q1, hb1⟩
  have T1 := Lib.hid (T0.out.call hb1)
  have hz0 := T0.out.size
  generalize ((w.alloc _).alloc _).alloc _ = w0 at *
  have Q1 := Lib.hid q1
  clear T0 CA q1 hb1
  generalize hB1 : w0.heap.size = B1 at *
  have c1 := T1.out.ba 1 _ rfl
  have c2 := T1.out.ba 2 _ rfl
  have c3 := T1.out.ba 3 _ rfl
  have d0 := T1.out.bl 0 _ rfl
  have d1 := T1.out.bl 1 _ rfl
  have d2 := T1.out.bl 2 _ rfl
  have d3 := T1.out.bl 3 _ rfl
  have f0 := T1.out.fl 0
  have f1 := T1.out.fl 1
  have f2 := T1.out.fl 2
  have f3 := T1.out.fl 3
  have T2 := Lib.hid (((T1.out.put 0 (.slice (some ⟨B1, 0, none⟩) s.length s.length)).put 1 (.int .i64 en)).put 2 (.int .i64 va))
  have Q2 := Lib.hid (((Q1.out.put (g := w.heap.size + 1 + 1) (by omega) 0 (.slice (some ⟨B1, 0, none⟩) s.length s.length)).put (g := w.heap.size + 1 + 1) (by omega) 1 (.int .i64 en)).put (g := w.heap.size + 1 + 1) (by omega) 2 (.int .i64 va))
  go_wp2_with fail
  have hbs3 := T2.out.below
  have Q2' := Lib.hid (Q2.out.more (show w1.heap.size ≤ (((w1.setCell ⟨w.heap.size + 1 + 1, 0, none⟩ (.slice (some ⟨B1, 0, none⟩) s.length s.length)).setCell ⟨w.heap.size + 1 + 1, 1, none⟩ (.int .i64 en)).setCell ⟨w.heap.size + 1 + 1, 2, none⟩ (.int .i64 va)).heap.size by simp))
  have CB2 := Lib.hid (CB _ hbs3).out
  clear CB
  generalize ((w1.setCell ⟨w.heap.size + 1 + 1, 0, none⟩ (.slice (some ⟨B1, 0, none⟩) s.length s.length)).setCell ⟨w.heap.size + 1 + 1, 1, none⟩ (.int .i64 en)).setCell ⟨w.heap.size + 1 + 1, 2, none⟩ (.int .i64 va) = w2 at *
  refine Calls.mono CB2.out ?_
  rintro ee w3 ⟨rfl, q3, hb3⟩
  have T3 := Lib.hid (T2.out.call hb3)
  have Q3 := Lib.hid q3
  have Q4 := Lib.hid (Q2'.out.on hb3)
  have hz2 := T2.out.size
  generalize hB2 : w2.heap.size = B2 at *
  clear T2 CB2 q3 hb3 hbs3 c1 c2 c3 d0 d1 d2 d3 f0 f1 f2 f3 T1 Q1 Q2 Q2'
  have d0 := T3.out.bl 0 _ rfl
  have d1 := T3.out.bl 1 _ rfl
  have d2 := T3.out.bl 2 _ rfl
  have d3 := T3.out.bl 3 _ rfl
  have f3 := T3.out.fl 3
  have e0 := T3.out.br 0 _ rfl
  have e1 := T3.out.br 1 _ rfl
  have e2 := T3.out.br 2 _ rfl
  have e3 := T3.out.br 3 _ rfl
  have g0 := T3.out.fr 0
  have g1 := T3.out.fr 1
  have g2 := T3.out.fr 2
  have g3 := T3.out.fr 3
  go_wp2_with fail
  refine bodyPost_ret (v := .agg #[.slice (some ⟨B1, 0, none⟩) s.length s.length, .int .i64 en, .int .i64 va, .slice (some ⟨B2, 0, none⟩) cl.length cl.length]) (by simp [results, Tryd.results9, go_sem, e0, e1, e2, e3]) rfl ⟨⟨_, _, rfl, ?_, ?_⟩, ?_⟩
  · exact (((((Q4.out.put (g := w.heap.size + 1 + 1) (by omega) 3 _).put (g := w.heap.size + 1) (by omega) 0 _).put (g := w.heap.size + 1) (by omega) 1 _).put (g := w.heap.size + 1) (by omega) 2 _).put (g := w.heap.size + 1) (by omega) 3 _).more (by simp)
  · exact (((((Q3.out.put (g := w.heap.size + 1 + 1) (by omega) 3 _).put (g := w.heap.size + 1) (by omega) 0 _).put (g := w.heap.size + 1) (by omega) 1 _).put (g := w.heap.size + 1) (by omega) 2 _).put (g := w.heap.size + 1) (by omega) 3 _).more (by simp)
  · exact (((((T3.out.put 3 _).res 0 _).res 1 _).res 2 _).res 3 _).below
end Go.Proofs.YtkhcfhhejmkikaaDoor
