/-
  Drawn expressions.
-/
import Derived.Test.YtoepehlndljkoaaDoorG11
namespace Go.Proofs.YtoepehlndljkoaaDoor
open Go.RowKit
set_option maxRecDepth 100000

/-- Kids in a row of the call's own, and what they lead to, behind block lo. -/
def DrK (w : World) (lo : Nat) (v : Value) (ks : List E) : Prop := ∃ xs, w.ownsRow lo 30 4 v ks.length xs ∧ ∀ j, (h : j < ks.length) →
  xs[j * 4]? = some (.int .i64 ks[j].op) ∧ xs[j * 4 + 1]? = some (.int .i64 ks[j].n) ∧ xs[j * 4 + 2]? = some (.string ks[j].name) ∧
    ∃ A c, xs[j * 4 + 3]? = some (.slice A ks[j].kids.length c) ∧ PdS w (fun b => Between w lo w.heap.size b ∧ v.ownBlock ≠ some b) ks[j].kids A
theorem DrK.nil (w : World) (lo : Nat) : DrK w lo (.slice none 0 0) [] := ⟨[], World.ownsRow_nil _ _ _ _, fun j h => absurd h (by simp)⟩
theorem flat_of_eq {w w' : World} {b : Nat} (h : Flat w b) (e : w'.heap[b]? = w.heap[b]?) : Flat w' b := by
  obtain ⟨cs, t, h⟩ := h
  exact ⟨cs, t, e.trans h⟩
theorem DrK.keep {w w' : World} {lo : Nat} {v : Value} {ks : List E} (h : DrK w lo v ks) (hk : ∀ b, lo ≤ b → b < w.heap.size → w'.heap[b]? = w.heap[b]?) (hz : w.heap.size ≤ w'.heap.size) : DrK w' lo v ks := by
  obtain ⟨xs, ho, hx⟩ := h
  refine ⟨xs, ?_, fun j hj => ?_⟩
  · rcases ho with ⟨h1, h2 | ⟨g, cap, cur, e1, e2, e3, e4⟩⟩
    · exact ⟨h1, .inl h2⟩
    · exact ⟨h1, .inr ⟨g, cap, cur, e1, e2, (hk g e2 (Array.getElem?_eq_some_iff.1 e3).1).trans e3, e4⟩⟩
  · obtain ⟨a, b, c, A, d, e, f⟩ := hx j hj
    exact ⟨a, b, c, A, d, e, f.keep (fun b o hb => World.cell?_of_block (hk b hb.1.1 hb.1.2.1)) (fun b hb => ⟨⟨hb.1.1, Nat.lt_of_lt_of_le hb.1.2.1 hz, flat_of_eq hb.1.2.2 (hk b hb.1.1 hb.1.2.1)⟩, hb.2⟩)⟩
theorem DrK.touch {w w' : World} {R lo : Nat} {v : Value} {ks : List E} (h : DrK w lo v ks) (ht : Touch R w w') (hR : R < lo) : DrK w' lo v ks := h.keep (fun b h1 h2 => ht.above b (by omega) h2) ht.below.size
theorem DrK.set {w : World} {lo : Nat} {v : Value} {ks : List E} (h : DrK w lo v ks) {b : Nat} (hb : b < lo) (o : Nat) (u : Value) : DrK (w.setCell ⟨b, o, none⟩ u) lo v ks :=
  h.keep (fun k h1 _ => by show (w.heap.modify b _)[k]? = _; rw [Array.getElem?_modify, if_neg (by omega)]) (by simp)
theorem DrK.wide {w : World} {lo lo' : Nat} {v : Value} {ks : List E} (h : DrK w lo v ks) (hl : lo' ≤ lo) : DrK w lo' v ks := by
  obtain ⟨xs, ho, hx⟩ := h
  refine ⟨xs, ?_, fun j hj => ?_⟩
  · rcases ho with ⟨h1, h2 | ⟨g, cap, cur, e1, e2, e3⟩⟩
    · exact ⟨h1, .inl h2⟩
    · exact ⟨h1, .inr ⟨g, cap, cur, e1, Nat.le_trans hl e2, e3⟩⟩
  · obtain ⟨a, b, c, A, d, e, f⟩ := hx j hj
    exact ⟨a, b, c, A, d, e, f.keep (fun _ _ _ => rfl) (fun b hb => ⟨⟨Nat.le_trans hl hb.1.1, hb.1.2⟩, hb.2⟩)⟩
theorem DrK.pd {w : World} {lo n c : Nat} {A : Option Addr} {ks : List E} (h : DrK w lo (.slice A n c) ks) : PdS w (Between w lo w.heap.size) ks A := by
  obtain ⟨xs, ho, hx⟩ := h
  rcases ho.2 with ⟨e, h0⟩ | ⟨g, cap, cur, e, hg, hb, hn, hm, hs, ht⟩
  · exact .inl (List.length_eq_zero_iff.1 h0)
  · injection e with e1 e2 e3
    subst e1
    have hlt : g < w.heap.size := (Array.getElem?_eq_some_iff.1 hb).1
    refine .inr ⟨g, 0, rfl, ⟨hg, hlt, _, _, hb⟩, PdC.mk fun i hi => ?_⟩
    obtain ⟨a, b, cc, A', d, ee, f⟩ := hx i hi
    have cell : ∀ j, j < ks.length * 4 → w.cell? ⟨g, 0 + j, none⟩ = xs[j]? := by
      intro j hj
      rw [Nat.zero_add, ← ht, List.getElem?_take_of_lt hj]
      unfold World.cell?
      simp [hb]
    exact ⟨⟨(cell _ (by omega)).trans a, (cell _ (by omega)).trans b, (cell _ (by omega)).trans cc⟩, A', d, (cell _ (by omega)).trans ee, f.keep (fun _ _ _ => rfl) (fun _ h => h.1)⟩
/-- A Kid as it is handed on. -/
structure Kd where
  e : E
  A : Option Addr
  c : Nat
def Kd.cells (k : Kd) : List Value := [.int .i64 k.e.op, .int .i64 k.e.n, .string k.e.name, .slice k.A k.e.kids.length k.c]
def kdCells : List Kd → List Value
  | [] => []
  | k :: l => k.cells ++ kdCells l
theorem kdCells_length : ∀ (l : List Kd), (kdCells l).length = l.length * 4
  | [] => rfl
  | k :: l => by show (k.cells ++ kdCells l).length = (l.length + 1) * 4; rw [List.length_append, kdCells_length l]; show 4 + _ = _; omega
theorem kdCells_at : ∀ (l : List Kd) (j : Nat) (h : j < l.length) (i : Nat), i < 4 → (kdCells l)[j * 4 + i]? = l[j].cells[i]?
  | [], j, h, _, _ => absurd h (by simp)
  | k :: l, 0, _, i, hi => by
    show (k.cells ++ kdCells l)[0 * 4 + i]? = k.cells[i]?
    rw [List.getElem?_append_left (by show _ < 4; omega)]
    congr 1
    omega
  | k :: l, j + 1, h, i, hi => by
    have hj : j < l.length := by simpa using h
    have ih := kdCells_at l j hj i hi
    show (k.cells ++ kdCells l)[(j + 1) * 4 + i]? = l[j].cells[i]?
    rw [List.getElem?_append_right (by show 4 ≤ _; omega), ← ih]
    congr 1
    show (j + 1) * 4 + i - 4 = _
    omega
/-- A list that is written out, in a block of its own. -/
theorem DrK.lit {w : World} {lo : Nat} (l : List Kd) (hlo : lo ≤ w.heap.size) (hl : l.length ≤ 1000) (hk : ∀ k ∈ l, DrK w lo (.slice k.A k.e.kids.length k.c) k.e.kids) :
    DrK (w.alloc (.cells (kdCells l).toArray 30)) lo (.slice (some ⟨w.heap.size, 0, none⟩) l.length l.length) (l.map (·.e)) := by
  have hb : ∀ b, b < w.heap.size → (w.alloc (.cells (kdCells l).toArray 30)).heap[b]? = w.heap[b]? := fun b hb => heap_alloc_old _ _ hb
  have hz : (w.alloc (.cells (kdCells l).toArray 30)).heap.size = w.heap.size + 1 := World.size_alloc _ _
  refine ⟨kdCells l, ⟨by rw [List.length_map, kdCells_length], .inr ⟨w.heap.size, l.length, (kdCells l).toArray, by rw [List.length_map], hlo, heap_alloc_new _ _, by rw [List.length_map]; exact Nat.le_refl _, by unfold maxLen; omega, by rw [List.size_toArray, kdCells_length], ?_⟩⟩, fun j hj => ?_⟩
  · rw [List.length_map, ← kdCells_length, List.take_length]
  · have hj' : j < l.length := by simpa using hj
    have a0 := kdCells_at l j hj' 0 (by omega)
    have a1 := kdCells_at l j hj' 1 (by omega)
    have a2 := kdCells_at l j hj' 2 (by omega)
    have a3 := kdCells_at l j hj' 3 (by omega)
    rw [Nat.add_zero] at a0
    rw [List.getElem_map]
    refine ⟨a0, a1, a2, _, _, a3, ?_⟩
    have hd := (hk l[j] (List.getElem_mem hj')).pd
    exact hd.keep (fun b o h => World.cell?_of_block (hb b h.2.1)) (fun b h => ⟨⟨h.1, by rw [hz]; have := h.2.1; omega, flat_of_eq h.2.2 (hb b h.2.1)⟩, by intro e; injection e with e; have := h.2.1; dsimp only at e; omega⟩)
/-- What drawing an expression leaves. -/
def DrRet (R p bd : Nat) (w : World) (ee : Ending) (w' : World) : Prop := ∃ (e : E) (A : Option Addr) (c : Nat), ee = .returned (exV e A c) ∧ DrK w' w.heap.size (.slice A e.kids.length c) e.kids ∧ bulkE e ≤ bd ∧ DrewT R p w w'
def pk : Nat → Nat
  | 0 => 4
  | n + 1 => 2 * pk n + 4
def bdE : Nat → Nat
  | 0 => 8
  | n + 1 => 2 * bdE n + 8
theorem pk_pos (d : Nat) : 4 ≤ pk d := by cases d with | zero => exact Nat.le_refl _ | succ d => show 4 ≤ 2 * pk d + 4; omega
theorem bdE_pos (d : Nat) : 8 ≤ bdE d := by cases d with | zero => exact Nat.le_refl _ | succ d => show 8 ≤ 2 * bdE d + 8; omega
set_option maxHeartbeats 2000000 in
theorem l2Expr_low (d : Nat) (hd : d < 2) (R p b o cap : Nat) (ss : List ByteArray) (w : World) (h : Rd w R p) (hp : p ≤ 900000) (hn1 : 1 ≤ ss.length) (hn2 : ss.length ≤ 1000) (hs : ∀ s ∈ ss, s.size ≤ 8) (hN : NmS w R b o ss) :
    Calls Tryd.prog 57 #[.pointer (some ⟨R, 0, none⟩), .slice (some ⟨b, o, none⟩) ss.length cap, .int .i64 (d : Int)] w (DrRet R (p + pk d) (bdE d) w) := by
  have hlt := h.lt
  have hpk := pk_pos d
  have hbd := bdE_pos d
  have hb0 := (Below.refl w.heap.size w).alloc (Nat.le_refl _) (.cells #[.int .i64 0, .int .i64 0, .string ⟨#[]⟩, .slice none 0 0] 30)
  have D0 := Lib.hid (DrewT.below h hb0)
  have R0 := Lib.hid (Res.new w (.int .i64 0) (.int .i64 0) (.string ⟨#[]⟩) (.slice none 0 0) 30)
  have LF := Lib.hid (leaf_names R p b o cap ss _ (h.keep hb0) (by omega) hn1 hn2 hs (hN.touch (Touch.of_below hb0 hlt)))
  clear hN hs hb0 h
  go_enter Tryd.func57, Tryd.ntmps57
  go_wp2_with fail
  (with_reducible refine Calls.mono LF.out ?_)
  rintro ee w2 ⟨op, n, s, hs, rfl, hd2⟩
  have D2 := Lib.hid ((D0.out.trans hd2).more (show p + 2 ≤ p + pk d by omega))
  have R2 := R0.out.touch hd2.2 hlt
  obtain ⟨c0, c1, c2, c3⟩ := R2.c
  have f0 := R2.f 0
  have f1 := R2.f 1
  have f2 := R2.f 2
  have f3 := R2.f 3
  clear hd2 LF D0 R0 R2
  go_wp2_with fail
  refine bodyPost_ret (v := .agg #[.int .i64 op, .int .i64 n, .string s, .slice none 0 0]) (by simp [results, Tryd.results57, go_sem, c0, c1, c2, c3]) rfl ⟨.mk op n s [], none, 0, rfl, DrK.nil _ _, by show s.size + 0 ≤ _; omega, ?_⟩
  exact (((D2.out.set (Nat.le_refl _) hlt 0 _).set (Nat.le_refl _) hlt 1 _).set (Nat.le_refl _) hlt 2 _).set (Nat.le_refl _) hlt 3 _
set_option maxHeartbeats 4000000 in
theorem l2Expr_succ (d : Nat) (hd : d ≤ 10) (hd1 : 1 ≤ d) (R p b o cap : Nat) (ss : List ByteArray) (w : World) (h : Rd w R p) (hp : p + pk (d + 1) ≤ 900000) (hn1 : 1 ≤ ss.length) (hn2 : ss.length ≤ 1000) (hs : ∀ s ∈ ss, s.size ≤ 8) (hN : NmS w R b o ss)
    (ih : ∀ (p : Nat) (w : World), Rd w R p → p + pk d ≤ 900000 → NmS w R b o ss → Calls Tryd.prog 57 #[.pointer (some ⟨R, 0, none⟩), .slice (some ⟨b, o, none⟩) ss.length cap, .int .i64 (d : Int)] w (DrRet R (p + pk d) (bdE d) w)) :
    Calls Tryd.prog 57 #[.pointer (some ⟨R, 0, none⟩), .slice (some ⟨b, o, none⟩) ss.length cap, .int .i64 ((d : Int) + 1)] w (DrRet R (p + pk (d + 1)) (bdE (d + 1)) w) := by
  have hlt := h.lt
  have hpk : pk (d + 1) = 2 * pk d + 4 := rfl
  have hbd : bdE (d + 1) = 2 * bdE d + 8 := rfl
  generalize pk (d + 1) = pk1 at *
  generalize bdE (d + 1) = bd1 at *
  have hb0 := (Below.refl w.heap.size w).alloc (Nat.le_refl _) (.cells #[.int .i64 0, .int .i64 0, .string ⟨#[]⟩, .slice none 0 0] 30)
  have D0 := Lib.hid (DrewT.below h hb0)
  have R0 := Lib.hid (Res.new w (.int .i64 0) (.int .i64 0) (.string ⟨#[]⟩) (.slice none 0 0) 30)
  have N0 := Lib.hid (hN.touch (Touch.of_below hb0 hlt))
  have PK := Lib.hid (pick_t R p 4 _ (h.keep hb0) (by omega) (by omega) (by omega))
  have HS := Lib.hid hs
  have IH := Lib.hid ih
  have HPK := Lib.hid hpk
  have HBD := Lib.hid hbd
  have hpp : p + 2 * pk d + 4 ≤ 900000 := by omega
  clear hN hs hb0 h ih hpk hbd
  go_enter Tryd.func57, Tryd.ntmps57
  go_wp2_with fail
  refine Calls.mono PK.out ?_
  rintro ee w1 ⟨r, hr, rfl, hd1'⟩
  have D1 := Lib.hid (D0.out.trans hd1')
  have R1 := Lib.hid (R0.out.touch hd1'.2 hlt)
  have N1 := Lib.hid (N0.out.touch hd1'.2)
  obtain ⟨p1, hp1, hr1⟩ := hd1'.1
  clear hd1' D0 R0 N0 PK
  by_cases hz : r = 0
  · subst hz
    have LF := Lib.hid (leaf_names R p1 b o cap ss _ hr1 (by omega) hn1 hn2 HS.out N1.out)
    go_wp2_with fail
    (with_reducible refine Calls.mono LF.out ?_)
    rintro ee w2 ⟨op, n, s, hs, rfl, hd2⟩
    have D2 := Lib.hid ((D1.out.trans hd2).more (show p1 + 2 ≤ p + pk1 by have := HPK.out; omega))
    have R2 := R1.out.touch hd2.2 hlt
    obtain ⟨c0, c1, c2, c3⟩ := R2.c
    have f0 := R2.f 0
    have f1 := R2.f 1
    have f2 := R2.f 2
    have f3 := R2.f 3
    clear hd2 LF D1 R1 R2
    go_wp2_with fail
    refine bodyPost_ret (v := .agg #[.int .i64 op, .int .i64 n, .string s, .slice none 0 0]) (by simp [results, Tryd.results57, go_sem, c0, c1, c2, c3]) rfl ⟨.mk op n s [], none, 0, rfl, DrK.nil _ _, by show s.size + 0 ≤ _; have := HBD.out; omega, ?_⟩
    exact (((D2.out.set (Nat.le_refl _) hlt 0 _).set (Nat.le_refl _) hlt 1 _).set (Nat.le_refl _) hlt 2 _).set (Nat.le_refl _) hlt 3 _
  · have q1 : ((r : Int) == 0) = false := beq_no (by omega)
    have PK := Lib.hid (pick_t R p1 7 _ hr1 (by omega) (by omega) (by omega))
    go_wp2_with fail
    refine Calls.mono PK.out ?_
    rintro ee w2 ⟨r2, hr2, rfl, hd2'⟩
    have D2 := Lib.hid (D1.out.trans hd2')
    have R2 := Lib.hid (R1.out.touch hd2'.2 hlt)
    have N2 := Lib.hid (N1.out.touch hd2'.2)
    obtain ⟨p2, hp2, hr2'⟩ := hd2'.1
    clear hd2' D1 R1 N1 PK q1 hr1
    by_cases hz2 : r2 = 0
    · subst hz2
      have NM := Lib.hid (num_t R p2 [11, 12, 11] w2 3 (0, 0) hr2' (by omega) (by simp) (by simp))
      go_wp2_with fail
      refine Calls.mono NM.out ?_
      rintro ee w3 ⟨z, hzz, rfl, hd3'⟩
      have D3 := Lib.hid (D2.out.trans hd3')
      have R3 := Lib.hid (R2.out.touch hd3'.2 hlt)
      have N3 := N2.out.touch hd3'.2
      obtain ⟨p3, hp3, hr3⟩ := hd3'.1
      have I3 := Lib.hid (IH.out p3 w3 hr3 (by omega) N3)
      clear hd3' D2 R2 N2 NM N3 hr3
      go_wp2_with fail
      (with_reducible refine Calls.mono I3.out ?_)
      rintro ee w4 ⟨e1, A1, cc1, rfl, hk1, hbk1, hd4⟩
      unfold exV
      have hl3 := R3.out.lt
      have R4 := R3.out.touch hd4.2 hlt
      have KL := Lib.hid (DrK.lit [⟨e1, A1, cc1⟩] (w := w4) (lo := w3.heap.size) hd4.2.below.size (by simp) (fun k hk => by simp at hk; subst hk; exact hk1))
      have hb5 := (Below.refl w4.heap.size w4).alloc (Nat.le_refl _) (.cells #[.int .i64 e1.op, .int .i64 e1.n, .string e1.name, .slice A1 e1.kids.length cc1] 30)
      obtain ⟨p4, hp4, hr4⟩ := hd4.1
      have D5 := Lib.hid (((D3.out.trans hd4).trans (DrewT.below hr4 hb5)).more (show p4 ≤ p + pk1 by have := HPK.out; omega))
      have R5 := R4.touch (Touch.of_below hb5 hr4.lt) hlt
      obtain ⟨c0, c1, c2, c3⟩ := R5.c
      have f0 := R5.f 0
      have f1 := R5.f 1
      have f2 := R5.f 2
      have f3 := R5.f 3
      clear hd4 D3 R3 R4 R5 I3 hb5 hr4 hk1
      go_wp2_with fail
      refine bodyPost_ret (v := .agg #[.int .i64 z, .int .i64 0, .string ⟨#[]⟩, .slice (some ⟨w4.heap.size, 0, none⟩) 1 1]) (by simp [results, Tryd.results57, go_sem, c0, c1, c2, c3]) rfl ⟨.mk z 0 ⟨#[]⟩ [e1], some ⟨w4.heap.size, 0, none⟩, 1, rfl, ?_, by show 0 + (1 + bulkE e1 + 0) ≤ _; have := HBD.out; omega, ?_⟩
      · exact (((((KL.out.set hl3 0 _).set hl3 1 _).set hl3 2 _).set hl3 3 _)).wide (Nat.le_of_lt hl3)
      · exact (((D5.out.set (Nat.le_refl _) hlt 0 _).set (Nat.le_refl _) hlt 1 _).set (Nat.le_refl _) hlt 2 _).set (Nat.le_refl _) hlt 3 _
    · have q2 : ((r2 : Int) == 0) = false := beq_no (by omega)
      have NM := Lib.hid (num_t R p2 [3, 3, 4, 5, 6, 7, 8, 9, 10] w2 3 (0, 0) hr2' (by omega) (by simp) (by simp))
      go_wp2_with fail
      refine Calls.mono NM.out ?_
      rintro ee w3 ⟨z, hzz, rfl, hd3'⟩
      have D3 := Lib.hid (D2.out.trans hd3')
      have R3 := Lib.hid (R2.out.touch hd3'.2 hlt)
      have N3 := Lib.hid (N2.out.touch hd3'.2)
      obtain ⟨p3, hp3, hr3⟩ := hd3'.1
      have I3 := Lib.hid (IH.out p3 w3 hr3 (by omega) N3.out)
      have hl3 := R3.out.lt
      clear hd3' D2 R2 N2 NM hr3 q2
      go_wp2_with fail
      (with_reducible refine Calls.mono I3.out ?_)
      rintro ee w4 ⟨e1, A1, cc1, rfl, hk1, hbk1, hd4⟩
      unfold exV
      have D4 := Lib.hid (D3.out.trans hd4)
      have R4 := Lib.hid (R3.out.touch hd4.2 hlt)
      have N4 := N3.out.touch hd4.2
      obtain ⟨p4, hp4, hr4⟩ := hd4.1
      have I4 := Lib.hid (IH.out p4 w4 hr4 (by omega) N4)
      have hs34 := hd4.2.below.size
      have HK1 := Lib.hid hk1
      clear hd4 D3 R3 N3 I3 N4 hr4 hk1
      go_wp2_with fail
      (with_reducible refine Calls.mono I4.out ?_)
      rintro ee w5 ⟨e2, A2, cc2, rfl, hk2, hbk2, hd5⟩
      unfold exV
      have hRl : R < w3.heap.size := Nat.lt_trans hlt hl3
      have KL := Lib.hid (DrK.lit [⟨e1, A1, cc1⟩, ⟨e2, A2, cc2⟩] (w := w5) (lo := w3.heap.size) (Nat.le_trans hs34 hd5.2.below.size) (by simp) (fun k hk => by
        simp at hk
        rcases hk with rfl | rfl
        · exact HK1.out.touch hd5.2 hRl
        · exact hk2.wide hs34))
      have hb6 := (Below.refl w5.heap.size w5).alloc (Nat.le_refl _) (.cells #[.int .i64 e1.op, .int .i64 e1.n, .string e1.name, .slice A1 e1.kids.length cc1, .int .i64 e2.op, .int .i64 e2.n, .string e2.name, .slice A2 e2.kids.length cc2] 30)
      obtain ⟨p5, hp5, hr5⟩ := hd5.1
      have D6 := Lib.hid (((D4.out.trans hd5).trans (DrewT.below hr5 hb6)).more (show p5 ≤ p + pk1 by have := HPK.out; omega))
      have R6 := (R4.out.touch hd5.2 hlt).touch (Touch.of_below hb6 hr5.lt) hlt
      obtain ⟨c0, c1, c2, c3⟩ := R6.c
      have f0 := R6.f 0
      have f1 := R6.f 1
      have f2 := R6.f 2
      have f3 := R6.f 3
      clear hd5 D4 R4 R6 I4 hb6 hr5 hk2 HK1
      go_wp2_with fail
      refine bodyPost_ret (v := .agg #[.int .i64 z, .int .i64 0, .string ⟨#[]⟩, .slice (some ⟨w5.heap.size, 0, none⟩) 2 2]) (by simp [results, Tryd.results57, go_sem, c0, c1, c2, c3]) rfl ⟨.mk z 0 ⟨#[]⟩ [e1, e2], some ⟨w5.heap.size, 0, none⟩, 2, rfl, ?_, by show 0 + (1 + bulkE e1 + (1 + bulkE e2 + 0)) ≤ _; have := HBD.out; omega, ?_⟩
      · exact (((((KL.out.set hl3 0 _).set hl3 1 _).set hl3 2 _).set hl3 3 _)).wide (Nat.le_of_lt hl3)
      · exact (((D6.out.set (Nat.le_refl _) hlt 0 _).set (Nat.le_refl _) hlt 1 _).set (Nat.le_refl _) hlt 2 _).set (Nat.le_refl _) hlt 3 _
theorem l2Expr_any (R b o cap : Nat) (ss : List ByteArray) (hn1 : 1 ≤ ss.length) (hn2 : ss.length ≤ 1000) (hs : ∀ s ∈ ss, s.size ≤ 8) : ∀ (d : Nat) (_ : d ≤ 10) (p : Nat) (w : World), Rd w R p → p + pk d ≤ 900000 → NmS w R b o ss →
    Calls Tryd.prog 57 #[.pointer (some ⟨R, 0, none⟩), .slice (some ⟨b, o, none⟩) ss.length cap, .int .i64 (d : Int)] w (DrRet R (p + pk d) (bdE d) w)
  | 0, _, p, w, h, hp, hN => l2Expr_low 0 (by omega) R p b o cap ss w h (by omega) hn1 hn2 hs hN
  | 1, _, p, w, h, hp, hN => l2Expr_low 1 (by omega) R p b o cap ss w h (by omega) hn1 hn2 hs hN
  | d + 2, hd, p, w, h, hp, hN => by
    rw [show ((d + 2 : Nat) : Int) = ((d + 1 : Nat) : Int) + 1 by omega]
    exact l2Expr_succ (d + 1) (by omega) (by omega) R p b o cap ss w h hp hn1 hn2 hs hN (fun p w h1 h2 h3 => l2Expr_any R b o cap ss hn1 hn2 hs (d + 1) (by omega) p w h1 h2 h3)
end Go.Proofs.YtoepehlndljkoaaDoor
