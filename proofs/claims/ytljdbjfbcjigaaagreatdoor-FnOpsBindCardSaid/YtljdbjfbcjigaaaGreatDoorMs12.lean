/-
  Read expressions whose lists of Kids lie in blocks that are all different: each list has colours for what lies below its Kids.
-/
import Derived.Test.YtljdbjfbcjigaaaGreatDoorMg12
import Derived.Test.YtljdbjfbcjigaaaGreatDoorMs11
import Derived.Test.YtljdbjfbcjigaaaGreatDoorMs3
import Derived.Test.YtljdbjfbcjigaaaGreatDoorMs6
namespace Go.Proofs.YtljdbjfbcjigaaaGreatDoor
open Go.RowKit
set_option maxRecDepth 100000

/-- Taking an op of a level, or none. -/
def TookO (R cap k l : Nat) (A : Option Addr) (ws : List W) (w : World) (ee : Ending) (w' : World) : Prop :=
  (∃ op : Int, 3 ≤ op ∧ op ≤ 12 ∧ ee = .returned (.tuple #[.int .i64 op, .bool true]) ∧ hitO l (ws.drop k) op = true ∧ (∀ j : Int, 3 ≤ j → j < op → hitO l (ws.drop k) j = false) ∧ Mv R w w' ∧ Cu w' R A cap ws (k + 1)) ∨
  (ee = .returned (.tuple #[.int .i64 0, .bool false]) ∧ (∀ j : Int, 3 ≤ j → j < 13 → hitO l (ws.drop k) j = false) ∧ Mv R w w' ∧ Cu w' R A cap ws k)
set_option maxHeartbeats 4000000 in
theorem takeOp_any (R cap k l : Nat) (A : Option Addr) (ws : List W) (w : World) (h : Cu w R A cap ws k) (hn : ws.length ≤ 600) (T : Sgn w) :
    Calls Tryz.prog 161 #[.pointer (some ⟨R, 0, none⟩), .int .i64 (l : Int)] w (TookO R cap k l A ws w) := by
  obtain ⟨t, fr, hk⟩ := T.row
  have HC := Lib.hid h
  have TT := fun s W hW => Lib.hid (takeText_any R cap k A ws s W hW hn)
  clear T h
  go_enter Tryz.func161, Tryz.ntmps161
  go_wp2_with (with_reducible refine wpList_load_row rfl _ _ rfl _ rfl _ _ _ _ hk Tryz.underlying218 rfl (by kernel_rfl) ?_)
  clear hk
  have hidx := sgTab_at
  unfold sgTab at hidx
  generalize Value.agg sgCells.toArray = KT at *
  have HI := Lib.hid hidx
  clear hidx
  go_loopw [9] (fun i wr => ∃ q : Nat, q ≤ 10 ∧ i = .int .i64 q ∧ (∀ j : Int, 3 ≤ j → j < q + 3 → hitO l (ws.drop k) j = false) ∧ Mv R w wr ∧ Cu wr R A cap ws k) (fun i _ => 10 - (intOf i).toNat)
  case atStart => exact ⟨0, Nat.zero_le _, rfl, fun j h1 h2 => by omega, ⟨Touch.refl _ _, fun _ _ => rfl⟩, HC.out⟩
  case round =>
    obtain ⟨q, hq, rfl, hno, hm, hc⟩ := hrel
    have HN := Lib.hid hno
    have HM := Lib.hid hm
    clear hno hm
    by_cases hlt : q < 10
    · have hi := HI.out q hlt wr
      unfold sgRow at hi
      have hop1 : ((q + 3 : Nat) : Int) = (q : Int) + 3 := by omega
      have HH := Lib.hid (show hitO l (ws.drop k) ((q + 3 : Nat) : Int) = (decide (lvl ((q + 3 : Nat) : Int) = l) && isT (ws.drop k) (sgnS ((q + 3 : Nat) : Int))) from rfl)
      have hal : Below wr.heap.size wr (wr.alloc (.cells #[.int .i64 ((q + 3 : Nat) : Int), .string (sgnS ((q + 3 : Nat) : Int)), .int .i64 ((lvl ((q + 3 : Nat) : Int) : Nat) : Int)] 149)) := (Below.refl _ _).alloc (Nat.le_refl _) _
      have HCA := Lib.hid (hc.below hal)
      have HMA := Lib.hid (HM.out.trans (Mv.of_below hal hc.lt))
      have TT1 := TT (sgnS ((q + 3 : Nat) : Int)) _ HCA.out
      have j0 : (wr.alloc (.cells #[.int .i64 ((q + 3 : Nat) : Int), .string (sgnS ((q + 3 : Nat) : Int)), .int .i64 ((lvl ((q + 3 : Nat) : Int) : Nat) : Int)] 149)).cell? ⟨wr.heap.size, 0, none⟩ = some (.int .i64 ((q + 3 : Nat) : Int)) := alloc_cell wr _ _ (0, 0) 0
      have hbl : R < wr.heap.size := hc.lt
      have hbz : wr.heap.size < (wr.alloc (.cells #[.int .i64 ((q + 3 : Nat) : Int), .string (sgnS ((q + 3 : Nat) : Int)), .int .i64 ((lvl ((q + 3 : Nat) : Int) : Nat) : Int)] 149)).heap.size := by rw [World.size_alloc]; omega
      have J0 := Lib.hid j0
      clear j0
      have hop3 : (3 : Int) ≤ ((q + 3 : Nat) : Int) := by omega
      have hop4 : ((q + 3 : Nat) : Int) ≤ 12 := by omega
      clear hal TT
      by_cases hl : lvl ((q + 3 : Nat) : Int) = l
      · rw [decide_eq_true hl, Bool.true_and] at HH
        have q1 : (((lvl ((q + 3 : Nat) : Int) : Nat) : Int) == (l : Int)) = true := beq_yes (by omega)
        clear hl
        generalize sgnS ((q + 3 : Nat) : Int) = s at *
        generalize lvl ((q + 3 : Nat) : Int) = lv at *
        generalize hg : ((q + 3 : Nat) : Int) = op at *
        have HG := Lib.hid hg
        clear hg hop1
        go_wp2_with fail
        (with_reducible refine Calls.mono TT1.out ?_)
        rintro ee w2 ⟨rfl, hm2, hc2⟩
        cases hb : isT (ws.drop k) s
        · rw [hb] at HH hc2
          have HF := Lib.hid HH.out
          have HM2 := Lib.hid (HMA.out.trans hm2)
          clear HMA hm2 HH hb
          go_wp2_with fail
          go_roundw
          case rel => exact ⟨q + 1, by omega, by go_num, fun j h1 h2 => by
            by_cases e : j = op
            · rw [e]; exact HF.out
            · have := HG.out; exact HN.out j h1 (by omega), HM2.out, hc2⟩
          case measure => simp only [intOf]; omega
        · rw [hb] at HH hc2
          have HF := Lib.hid HH.out
          have HM2 := Lib.hid (HMA.out.trans hm2)
          have j2 := (hm2.1.cell (o := 0) hbl hbz).trans J0.out
          clear HMA hm2 HH hb
          go_wp2_with fail
          go_ret2
          exact .inl ⟨op, hop3, hop4, rfl, HF.out, fun j h1 h2 => HN.out j h1 (by have := HG.out; omega), HM2.out, hc2⟩
      · have HF := Lib.hid (show hitO l (ws.drop k) ((q + 3 : Nat) : Int) = false by rw [HH.out, decide_eq_false hl]; rfl)
        have q1 : (((lvl ((q + 3 : Nat) : Int) : Nat) : Int) == (l : Int)) = false := beq_no (by omega)
        clear hl TT1 HH
        generalize sgnS ((q + 3 : Nat) : Int) = s at *
        generalize lvl ((q + 3 : Nat) : Int) = lv at *
        generalize hg : ((q + 3 : Nat) : Int) = op at *
        have HG := Lib.hid hg
        clear hg hop1
        go_wp2_with fail
        go_roundw
        case rel => exact ⟨q + 1, by omega, by go_num, fun j h1 h2 => by
          by_cases e : j = op
          · rw [e]; exact HF.out
          · have := HG.out; exact HN.out j h1 (by omega), HMA.out, HCA.out⟩
        case measure => simp only [intOf]; omega
    · obtain rfl : q = 10 := by omega
      go_wp2_with fail
      go_ret2
      exact .inr ⟨rfl, fun j h1 h2 => HN.out j h1 (by omega), HM.out, hc⟩
/-- The word that is taken. -/
def TookW (R cap k : Nat) (A : Option Addr) (ws : List W) (z : Int) (s : ByteArray) (w : World) (ee : Ending) (w' : World) : Prop :=
  ee = .returned (.agg #[.int .i64 z, .string s]) ∧ Mv R w w' ∧ Cu w' R A cap ws k
theorem Mv.set {R : Nat} {w w' : World} (h : Mv R w w') {b : Nat} (hb : w.heap.size ≤ b) (hR : R < w.heap.size) (o : Nat) (v : Value) : Mv R w (w'.setCell ⟨b, o, none⟩ v) :=
  ⟨⟨h.1.below.setCell (p := ⟨b, o, none⟩) (by show R ≤ b; omega) v, fun k h1 h2 => by
    show (w'.heap.modify b _)[k]? = _
    rw [Array.getElem?_modify, if_neg (by omega)]
    exact h.1.above k h1 h2⟩, fun o' ho => by rw [World.cell?_setCell_other _ _ _ _ (by intro e; injection e with e; omega)]; exact h.2 o' ho⟩
theorem Mv.drew {R : Nat} {w w' : World} (h : Mv R w w') : Mv R w w'.drew := ⟨⟨h.1.below.drew, h.1.above⟩, h.2⟩
theorem Cu.set {w : World} {R cap k : Nat} {A : Option Addr} {ws : List W} (h : Cu w R A cap ws k) {b : Nat} (hb : R < b) (o : Nat) (v : Value) : Cu (w.setCell ⟨b, o, none⟩ v) R A cap ws k :=
  ⟨h.wd.below ((Below.refl R w).setCell (p := ⟨b, o, none⟩) (Nat.le_of_lt hb) _), by simpa using h.lt, by rw [World.cell?_setCell_other _ _ _ _ (by intro e; injection e with e; omega)]; exact h.c0,
    by rw [World.cell?_setCell_other _ _ _ _ (by intro e; injection e with e; omega)]; exact h.c1, by rw [World.frozen?_setCell]; exact h.f1, h.le⟩
set_option maxHeartbeats 4000000 in
theorem take_yes (R cap k : Nat) (A : Option Addr) (ws : List W) (w : World) (h : Cu w R A cap ws k) (hn : ws.length ≤ 600) (hk : k < ws.length) :
    Calls Tryz.prog 163 #[.pointer (some ⟨R, 0, none⟩)] w (TookW R cap (k + 1) A ws ws[k].1 ws[k].2 w) := by
  have hal : Below w.heap.size w (w.alloc (.cells #[.int .i64 0, .string ⟨#[]⟩] 138)) := (Below.refl _ _).alloc (Nat.le_refl _) _
  have HA := Lib.hid (h.below hal)
  have HM := Lib.hid (Mv.of_below (R := R) hal h.lt)
  have AE := Lib.hid (atEnd_any R cap k A ws _ HA.out)
  have r0 : (w.alloc (.cells #[.int .i64 0, .string ⟨#[]⟩] 138)).cell? ⟨w.heap.size, 0, none⟩ = some (.int .i64 0) := alloc_cell w _ _ (0, 0) 0
  have r1 : (w.alloc (.cells #[.int .i64 0, .string ⟨#[]⟩] 138)).cell? ⟨w.heap.size, 1, none⟩ = some (.string ⟨#[]⟩) := alloc_cell w _ _ (0, 0) 1
  have f0 := alloc_frozen w #[.int .i64 0, .string ⟨#[]⟩] 138 0
  have f1 := alloc_frozen w #[.int .i64 0, .string ⟨#[]⟩] 138 1
  have hlt := h.lt
  have hle := h.le
  obtain ⟨b, o, rfl, hB, d1, d2⟩ := HA.out.wd.at_ hk
  have c0 := HA.out.c0
  have c1 := HA.out.c1
  have g1 := HA.out.f1
  have e0 : decide (k = ws.length) = false := decide_eq_false (by omega)
  rw [e0] at AE
  have hk3 : k ≤ 600 := by omega
  have hk1 : (0 : Int) ≤ (k : Int) := by omega
  have hk2 : (k : Int) < (ws.length : Int) := by omega
  have hne : b ≠ R := by omega
  have hRw : R ≠ w.heap.size := by omega
  have hbw : b ≠ w.heap.size := by omega
  clear h e0 hal
  generalize hs : ws[k].2 = s at *
  generalize hz : ws[k].1 = z at *
  clear hs hz
  go_enter Tryz.func163, Tryz.ntmps163
  go_wp2_with fail
  generalize w.alloc (.cells #[.int .i64 0, .string ⟨#[]⟩] 138) = wa at *
  (with_reducible refine Calls.mono AE.out ?_)
  rintro ee w1 ⟨rfl, rfl⟩
  go_wp2_with fail
  have c0' : (wa.drew.setCell ⟨R, 1, none⟩ (.int .i64 ((k : Int) + 1))).cell? ⟨R, 0, none⟩ = some (.slice (some ⟨b, o, none⟩) ws.length cap) := by rw [World.cell?_setCell_other _ _ _ _ (by simp)]; exact c0
  have c1' : (wa.drew.setCell ⟨R, 1, none⟩ (.int .i64 ((k : Int) + 1))).cell? ⟨R, 1, none⟩ = some (.int .i64 ((k : Int) + 1)) := World.cell?_setCell_same _ _ _ c1
  go_region
  all_goals
    go_wp2_with fail
    refine bodyPost_ret (v := .agg #[.int .i64 z, .string s]) (by simp [results, Tryz.results163, go_sem, r0, r1]) rfl ⟨rfl, ?_, ?_⟩
    · exact (((HM.out.drew.trans (Mv.next _ _ (.int .i64 ((k + 1 : Nat) : Int)))).drew).set (Nat.le_refl _) hlt 0 (.int .i64 z)).set (Nat.le_refl _) hlt 1 (.string s)
    · exact ((HA.out.drew.next (k' := k + 1) hk).drew.set hlt 0 (.int .i64 z)).set hlt 1 (.string s)
set_option maxHeartbeats 4000000 in
theorem take_no (R cap k : Nat) (A : Option Addr) (ws : List W) (w : World) (h : Cu w R A cap ws k) (hk : ¬ k < ws.length) :
    Calls Tryz.prog 163 #[.pointer (some ⟨R, 0, none⟩)] w (TookW R cap k A ws 0 ⟨#[]⟩ w) := by
  have hal : Below w.heap.size w (w.alloc (.cells #[.int .i64 0, .string ⟨#[]⟩] 138)) := (Below.refl _ _).alloc (Nat.le_refl _) _
  have HA := Lib.hid (h.below hal)
  have HM := Lib.hid (Mv.of_below (R := R) hal h.lt)
  have AE := Lib.hid (atEnd_any R cap k A ws _ HA.out)
  have r0 : (w.alloc (.cells #[.int .i64 0, .string ⟨#[]⟩] 138)).cell? ⟨w.heap.size, 0, none⟩ = some (.int .i64 0) := alloc_cell w _ _ (0, 0) 0
  have r1 : (w.alloc (.cells #[.int .i64 0, .string ⟨#[]⟩] 138)).cell? ⟨w.heap.size, 1, none⟩ = some (.string ⟨#[]⟩) := alloc_cell w _ _ (0, 0) 1
  have f0 := alloc_frozen w #[.int .i64 0, .string ⟨#[]⟩] 138 0
  have f1 := alloc_frozen w #[.int .i64 0, .string ⟨#[]⟩] 138 1
  have hlt := h.lt
  have hle := h.le
  have e0 : decide (k = ws.length) = true := decide_eq_true (by omega)
  rw [e0] at AE
  clear h e0 hal
  go_enter Tryz.func163, Tryz.ntmps163
  go_wp2_with fail
  generalize hwa : w.alloc (.cells #[.int .i64 0, .string ⟨#[]⟩] 138) = wa at *
  (with_reducible refine Calls.mono AE.out ?_)
  rintro ee w1 ⟨rfl, rfl⟩
  clear hwa
  go_wp2_with fail
  refine bodyPost_ret (v := .agg #[.int .i64 0, .string ⟨#[]⟩]) (by simp [results, Tryz.results163, go_sem, r0, r1]) rfl ⟨rfl, ?_, ?_⟩
  · exact (HM.out.drew.set (Nat.le_refl _) hlt 0 (.int .i64 0)).set (Nat.le_refl _) hlt 1 (.string ⟨#[]⟩)
  · exact (HA.out.drew.set hlt 0 (.int .i64 0)).set hlt 1 (.string ⟨#[]⟩)
end Go.Proofs.YtljdbjfbcjigaaaGreatDoor

namespace Go.Proofs.YtljdbjfbcjigaaaGreatDoor
open Go.RowKit
set_option maxRecDepth 100000

/-- Cells that read as Kids; what lies below the j-th one has the colour i + j. -/
def PdDC (w : World) : List E → (Nat → Prop) → (Nat → Nat) → Nat → Nat → Nat → Prop
  | [], _, _, _, _, _ => True
  | .mk op n s ks' :: ks, S, f, i, b, o =>
    (w.cell? ⟨b, o, none⟩ = some (.int .i64 op) ∧ w.cell? ⟨b, o + 1, none⟩ = some (.int .i64 n) ∧ w.cell? ⟨b, o + 2, none⟩ = some (.string s)) ∧
    (∃ A cap, w.cell? ⟨b, o + 3, none⟩ = some (.slice A ks'.length cap) ∧ (ks' = [] ∨ ∃ b' o', A = some ⟨b', o', none⟩ ∧ (S b' ∧ f b' = i) ∧ ∃ f', PdDC w ks' (fun c => (S c ∧ f c = i) ∧ c ≠ b') f' 0 b' o')) ∧ PdDC w ks S f (i + 1) b (o + 4)
def PdD (w : World) (S : Nat → Prop) (ks : List E) (A : Option Addr) : Prop := ks = [] ∨ ∃ b o, A = some ⟨b, o, none⟩ ∧ S b ∧ ∃ f, PdDC w ks (fun c => S c ∧ c ≠ b) f 0 b o
def PdDAt (w : World) (S : Nat → Prop) (e : E) (b o : Nat) : Prop :=
  (w.cell? ⟨b, o, none⟩ = some (.int .i64 e.op) ∧ w.cell? ⟨b, o + 1, none⟩ = some (.int .i64 e.n) ∧ w.cell? ⟨b, o + 2, none⟩ = some (.string e.name)) ∧
    ∃ A cap, w.cell? ⟨b, o + 3, none⟩ = some (.slice A e.kids.length cap) ∧ PdD w S e.kids A
theorem PdDC_cons (w : World) (S : Nat → Prop) (f : Nat → Nat) (i : Nat) (e : E) (ks : List E) (b o : Nat) : PdDC w (e :: ks) S f i b o ↔ PdDAt w (fun c => S c ∧ f c = i) e b o ∧ PdDC w ks S f (i + 1) b (o + 4) := by
  obtain ⟨op, n, s, ks'⟩ := e
  unfold PdDAt PdD
  rw [PdDC]
  simp only [E.op, E.n, E.name, E.kids, and_assoc]
theorem PdDC.get {w : World} {S : Nat → Prop} {f : Nat → Nat} : ∀ {ks : List E} {i b o : Nat}, PdDC w ks S f i b o → ∀ {j : Nat} (h : j < ks.length), PdDAt w (fun c => S c ∧ f c = i + j) ks[j] b (o + j * 4)
  | [], _, _, _, _, j, h => absurd h (by simp)
  | e :: ks, i, b, o, hr, 0, _ => by
    rw [PdDC_cons] at hr
    have e1 : o + 0 * 4 = o := by omega
    have e2 : i + 0 = i := by omega
    rw [e1, e2]; exact hr.1
  | e :: ks, i, b, o, hr, j + 1, h => by
    rw [PdDC_cons] at hr
    have := PdDC.get hr.2 (j := j) (by simpa using h)
    have e1 : o + 4 + j * 4 = o + (j + 1) * 4 := by omega
    have e2 : i + 1 + j = i + (j + 1) := by omega
    rw [e1, e2] at this
    exact this
theorem PdDC.mk {w : World} {S : Nat → Prop} {f : Nat → Nat} : ∀ {ks : List E} {i b o : Nat}, (∀ j, (h : j < ks.length) → PdDAt w (fun c => S c ∧ f c = i + j) ks[j] b (o + j * 4)) → PdDC w ks S f i b o
  | [], _, _, _, _ => by rw [PdDC]; trivial
  | e :: ks, i, b, o, h => by
    rw [PdDC_cons]
    refine ⟨?_, PdDC.mk fun j hj => ?_⟩
    · have := h 0 (by simp)
      have e1 : o + 0 * 4 = o := by omega
      have e2 : i + 0 = i := by omega
      rw [e1, e2] at this; exact this
    have := h (j + 1) (by simpa using hj)
    have e1 : o + (j + 1) * 4 = o + 4 + j * 4 := by omega
    have e2 : i + (j + 1) = i + 1 + j := by omega
    rw [e1, e2] at this
    exact this
theorem pdd_keep {w w' : World} : ∀ (N : Nat) (ks : List E) (A : Option Addr) (S S' : Nat → Prop), sizeL ks ≤ N → (∀ b o, S b → w'.cell? ⟨b, o, none⟩ = w.cell? ⟨b, o, none⟩) → (∀ b, S b → S' b) → PdD w S ks A → PdD w' S' ks A := by
  intro N
  induction N with
  | zero =>
    intro ks A S S' hN hc hB h
    cases ks with
    | nil => exact .inl rfl
    | cons k ks => have := sizeE_pos k; have : sizeL (k :: ks) = sizeE k + sizeL ks := rfl; omega
  | succ N ih =>
    intro ks A S S' hN hc hB h
    rcases h with h | ⟨b, o, e, hb, f, hr⟩
    · exact .inl h
    · refine .inr ⟨b, o, e, hB _ hb, f, PdDC.mk fun i hi => ?_⟩
      obtain ⟨⟨c0, c1, c2⟩, A', cap, c3, hr'⟩ := hr.get hi
      refine ⟨⟨(hc _ _ hb).trans c0, (hc _ _ hb).trans c1, (hc _ _ hb).trans c2⟩, A', cap, (hc _ _ hb).trans c3, ih _ _ _ _ ?_ (fun c o hh => hc c o hh.1.1) (fun c hh => ⟨⟨hB _ hh.1.1, hh.1.2⟩, hh.2⟩) hr'⟩
      have := sizeL_get hi
      rw [sizeE_kids] at this
      omega
theorem PdD.keep {w w' : World} {S S' : Nat → Prop} {ks : List E} {A : Option Addr} (h : PdD w S ks A) (hc : ∀ b o, S b → w'.cell? ⟨b, o, none⟩ = w.cell? ⟨b, o, none⟩) (hB : ∀ b, S b → S' b) : PdD w' S' ks A :=
  pdd_keep _ _ _ _ _ (Nat.le_refl _) hc hB h
theorem pdd_pd {w : World} : ∀ (N : Nat) (ks : List E) (A : Option Addr) (S S' : Nat → Prop), sizeL ks ≤ N → (∀ b, S b → S' b) → PdD w S ks A → PdS w S' ks A := by
  intro N
  induction N with
  | zero =>
    intro ks A S S' hN hB h
    cases ks with
    | nil => exact .inl rfl
    | cons k ks => have := sizeE_pos k; have : sizeL (k :: ks) = sizeE k + sizeL ks := rfl; omega
  | succ N ih =>
    intro ks A S S' hN hB h
    rcases h with h | ⟨b, o, e, hb, f, hr⟩
    · exact .inl h
    · refine .inr ⟨b, o, e, hB _ hb, PdC.mk fun i hi => ?_⟩
      obtain ⟨c, A', cap, c3, hr'⟩ := hr.get hi
      refine ⟨c, A', cap, c3, ih _ _ _ _ ?_ (fun c hh => hB _ hh.1.1) hr'⟩
      have := sizeL_get hi
      rw [sizeE_kids] at this
      omega
theorem PdD.pd {w : World} {S : Nat → Prop} {ks : List E} {A : Option Addr} (h : PdD w S ks A) : PdS w S ks A := pdd_pd _ _ _ _ _ (Nat.le_refl _) (fun _ h => h) h
theorem PdD.rd {w : World} {S : Nat → Prop} {B : Nat} {ks : List E} {A : Option Addr} (h : PdD w S ks A) (hB : ∀ b, S b → b < B) : RdS w B ks A := h.pd.rd hB
theorem PdD.later {w w' : World} {lo hi : Nat} {ks : List E} {A : Option Addr} (h : PdD w (Between w lo hi) ks A) (hb : Below hi w w') {lo' hi' : Nat} (h1 : lo' ≤ lo) (h2 : hi ≤ hi') : PdD w' (Between w' lo' hi') ks A :=
  h.keep (fun b _ h => hb.cell (p := ⟨b, _, none⟩) h.2.1) (fun _ h => ⟨Nat.le_trans h1 h.1, Nat.lt_of_lt_of_le h.2.1 h2, h.2.2.below hb h.2.1⟩)
theorem PdD.set' {w : World} {lo hi : Nat} {ks : List E} {A : Option Addr} (h : PdD w (Between w lo hi) ks A) {g : Nat} (hg : g < lo) (o : Nat) (v : Value) : PdD (w.setCell ⟨g, o, none⟩ v) (Between (w.setCell ⟨g, o, none⟩ v) lo hi) ks A :=
  h.keep (fun b o' h => World.cell?_setCell_other _ _ _ _ (by intro e; injection e with e; have := h.1; omega)) (fun _ h => ⟨h.1, h.2.1, h.2.2.set _ _⟩)
theorem PdD.wide {w : World} {lo hi lo' hi' : Nat} {ks : List E} {A : Option Addr} (h : PdD w (Between w lo hi) ks A) (h1 : lo' ≤ lo) (h2 : hi ≤ hi') : PdD w (Between w lo' hi') ks A :=
  h.keep (fun _ _ _ => rfl) (fun _ h => ⟨Nat.le_trans h1 h.1, Nat.lt_of_lt_of_le h.2.1 h2, h.2.2⟩)
theorem PdD.four' {w : World} {lo hi : Nat} {ks : List E} {A : Option Addr} (h : PdD w (Between w lo hi) ks A) {g : Nat} (hg : g < lo) (u0 u1 u2 u3 : Value) :
    PdD ((((w.setCell ⟨g, 0, none⟩ u0).setCell ⟨g, 1, none⟩ u1).setCell ⟨g, 2, none⟩ u2).setCell ⟨g, 3, none⟩ u3) (Between ((((w.setCell ⟨g, 0, none⟩ u0).setCell ⟨g, 1, none⟩ u1).setCell ⟨g, 2, none⟩ u2).setCell ⟨g, 3, none⟩ u3) lo hi) ks A :=
  (((h.set' hg 0 u0).set' hg 1 u1).set' hg 2 u2).set' hg 3 u3
theorem PdD.toX {w : World} {lo hi lo' X : Nat} {ks : List E} {A : Option Addr} (h : PdD w (Between w lo hi) ks A) (hX : X < lo ∨ hi ≤ X) (h1 : lo' ≤ lo) (h2 : hi ≤ w.heap.size) : PdD w (BtX lo' X w) ks A :=
  h.keep (fun _ _ _ => rfl) (fun _ h => ⟨by have := h.1; omega, by have := h.2.1; omega, by have := h.1; have := h.2.1; omega, h.2.2⟩)
theorem PdD.fromX {w : World} {lo X : Nat} {ks : List E} {A : Option Addr} (h : PdD w (BtX lo X w) ks A) : PdD w (Between w lo w.heap.size) ks A :=
  h.keep (fun _ _ _ => rfl) (fun _ h => ⟨h.1, h.2.1, h.2.2.2⟩)
/-- Trees that keep clear of one block, and lie in a range. -/
def BtQ (lo X l h : Nat) (w : World) (b : Nat) : Prop := BtX lo X w b ∧ l ≤ b ∧ b < h
theorem PdD.toQ {w : World} {lo hi lo' X : Nat} {ks : List E} {A : Option Addr} (h : PdD w (Between w lo hi) ks A) (hX : X < lo ∨ hi ≤ X) (h1 : lo' ≤ lo) (h2 : hi ≤ w.heap.size) : PdD w (BtQ lo' X lo hi w) ks A :=
  h.keep (fun _ _ _ => rfl) (fun _ h => ⟨⟨by have := h.1; omega, by have := h.2.1; omega, by have := h.1; have := h.2.1; omega, h.2.2⟩, h.1, h.2.1⟩)
theorem PdD.ofQ {w : World} {lo X l h : Nat} {ks : List E} {A : Option Addr} (hp : PdD w (BtQ lo X l h w) ks A) : PdD w (BtX lo X w) ks A := hp.keep (fun _ _ _ => rfl) (fun _ h => h.1)
theorem PdD.setQ {w : World} {lo X l hh : Nat} {ks : List E} {A : Option Addr} (h : PdD w (BtQ lo X l hh w) ks A) (o : Nat) (v : Value) : PdD (w.setCell ⟨X, o, none⟩ v) (BtQ lo X l hh (w.setCell ⟨X, o, none⟩ v)) ks A :=
  h.keep (fun b o' h => World.cell?_setCell_other _ _ _ _ (by intro e; injection e with e; exact h.1.2.2.1 (by omega))) (fun _ h => ⟨⟨h.1.1, by simpa using h.1.2.1, h.1.2.2.1, h.1.2.2.2.set _ _⟩, h.2⟩)
theorem pdd_fourQ {w : World} {lo X l h : Nat} {ks : List E} {A : Option Addr} (hp : PdD w (BtQ lo X l h w) ks A) (u0 u1 u2 u3 : Value) :
    PdD ((((w.setCell ⟨X, 0, none⟩ u0).setCell ⟨X, 1, none⟩ u1).setCell ⟨X, 2, none⟩ u2).setCell ⟨X, 3, none⟩ u3) (BtQ lo X l h ((((w.setCell ⟨X, 0, none⟩ u0).setCell ⟨X, 1, none⟩ u1).setCell ⟨X, 2, none⟩ u2).setCell ⟨X, 3, none⟩ u3)) ks A :=
  (((hp.setQ 0 u0).setQ 1 u1).setQ 2 u2).setQ 3 u3
theorem pdd_keepX {w w' : World} {lo X : Nat} {ks : List E} {A : Option Addr} (h : PdD w (BtX lo X w) ks A) (hc : ∀ b, lo ≤ b → b < w.heap.size → b ≠ X → w'.heap[b]? = w.heap[b]?) (hz : w.heap.size ≤ w'.heap.size) : PdD w' (BtX lo X w') ks A :=
  h.keep (fun b _ hb => World.cell?_of_block (hc b hb.1 hb.2.1 hb.2.2.1)) (fun b hb => ⟨hb.1, Nat.lt_of_lt_of_le hb.2.1 hz, hb.2.2.1, flat_of_eq hb.2.2.2 (hc b hb.1 hb.2.1 hb.2.2.1)⟩)
theorem pdd_keepQ {w w' : World} {lo X : Nat} {ks : List E} {A : Option Addr} (h : PdD w (BtX lo X w) ks A) (hc : ∀ b, lo ≤ b → b < w.heap.size → b ≠ X → w'.heap[b]? = w.heap[b]?) (hz : w.heap.size ≤ w'.heap.size) : PdD w' (BtQ lo X 0 w.heap.size w') ks A :=
  h.keep (fun b _ hb => World.cell?_of_block (hc b hb.1 hb.2.1 hb.2.2.1)) (fun b hb => ⟨⟨hb.1, Nat.lt_of_lt_of_le hb.2.1 hz, hb.2.2.1, flat_of_eq hb.2.2.2 (hc b hb.1 hb.2.1 hb.2.2.1)⟩, Nat.zero_le _, hb.2.1⟩)
/-- A list that is written out, in a new block. -/
theorem pdd_lit {w : World} {S S' : Nat → Prop} (f : Nat → Nat) (l : List Kd) (hS : S' w.heap.size) (hk : ∀ j, (h : j < l.length) → PdD w (fun c => S c ∧ f c = j) l[j].e.kids l[j].A) (hlt : ∀ b, S b → b < w.heap.size) (hs : ∀ b, S b → S' b) :
    PdD (w.alloc (.cells (kdCells l).toArray 28)) S' (l.map (·.e)) (some ⟨w.heap.size, 0, none⟩) := by
  refine .inr ⟨_, 0, rfl, hS, f, PdDC.mk fun j hj => ?_⟩
  have hj' : j < l.length := by simpa using hj
  have a0 := kdCells_at l j hj' 0 (by omega)
  have a1 := kdCells_at l j hj' 1 (by omega)
  have a2 := kdCells_at l j hj' 2 (by omega)
  have a3 := kdCells_at l j hj' 3 (by omega)
  have cell : ∀ i v, (kdCells l)[i]? = some v → (w.alloc (.cells (kdCells l).toArray 28)).cell? ⟨w.heap.size, 0 + i, none⟩ = some v := by
    intro i v hv
    exact lit_cell w (kdCells l) 28 (0, 0) i v hv
  rw [Nat.add_zero] at a0
  rw [List.getElem_map]
  refine ⟨⟨cell _ _ a0, cell _ _ a1, cell _ _ a2⟩, _, _, cell _ _ a3, ?_⟩
  exact (hk j hj').keep (fun b o h => World.cell?_of_block (heap_alloc_old _ _ (hlt b h.1))) (fun b h => ⟨⟨hs b h.1, fun e => by have := hlt b h.1; omega⟩, by rw [Nat.zero_add]; exact h.2⟩)
/-- Kids in a row of the call's own, and what they lead to, from block lo on and ahead of block hi. -/
def DrD (w : World) (lo hi : Nat) (v : Value) (ks : List E) : Prop := ∃ (xs : List Value) (f : Nat → Nat), w.ownsRow lo 28 4 v ks.length xs ∧ ∀ j, (h : j < ks.length) →
  xs[j * 4]? = some (.int .i64 ks[j].op) ∧ xs[j * 4 + 1]? = some (.int .i64 ks[j].n) ∧ xs[j * 4 + 2]? = some (.string ks[j].name) ∧
    ∃ A c, xs[j * 4 + 3]? = some (.slice A ks[j].kids.length c) ∧ PdD w (fun b => (Between w lo hi b ∧ v.ownBlock ≠ some b) ∧ f b = j) ks[j].kids A
theorem DrD.nil (w : World) (lo hi : Nat) : DrD w lo hi (.slice none 0 0) [] := ⟨[], fun _ => 0, World.ownsRow_nil _ _ _ _, fun j h => absurd h (by simp)⟩
theorem DrD.keep {w w' : World} {lo hi hi' : Nat} {v : Value} {ks : List E} (h : DrD w lo hi v ks) (hh : hi ≤ hi') (hhi : hi ≤ w.heap.size) (hk : ∀ b, lo ≤ b → b < w.heap.size → w'.heap[b]? = w.heap[b]?) : DrD w' lo hi' v ks := by
  obtain ⟨xs, f, ho, hx⟩ := h
  refine ⟨xs, f, ?_, fun j hj => ?_⟩
  · rcases ho with ⟨h1, h2 | ⟨g, cap, cur, e1, e2, e3, e4⟩⟩
    · exact ⟨h1, .inl h2⟩
    · exact ⟨h1, .inr ⟨g, cap, cur, e1, e2, (hk g e2 (Array.getElem?_eq_some_iff.1 e3).1).trans e3, e4⟩⟩
  · obtain ⟨a, b, c, A, d, e, q⟩ := hx j hj
    exact ⟨a, b, c, A, d, e, q.keep (fun b o hb => World.cell?_of_block (hk b hb.1.1.1 (Nat.lt_of_lt_of_le hb.1.1.2.1 hhi))) (fun b hb => ⟨⟨⟨hb.1.1.1, Nat.lt_of_lt_of_le hb.1.1.2.1 hh, flat_of_eq hb.1.1.2.2 (hk b hb.1.1.1 (Nat.lt_of_lt_of_le hb.1.1.2.1 hhi))⟩, hb.1.2⟩, hb.2⟩)⟩
theorem DrD.touch {w w' : World} {R lo hi : Nat} {v : Value} {ks : List E} (h : DrD w lo hi v ks) (ht : Touch R w w') (hR : R < lo) (hhi : hi ≤ w.heap.size) : DrD w' lo hi v ks := h.keep (Nat.le_refl _) hhi (fun b h1 h2 => ht.above b (by omega) h2)
theorem DrD.below {w w' : World} {B lo hi : Nat} {v : Value} {ks : List E} (h : DrD w lo hi v ks) (hb : Below B w w') (hB : w.heap.size ≤ B) (hhi : hi ≤ w.heap.size) : DrD w' lo hi v ks := h.keep (Nat.le_refl _) hhi (fun b _ h2 => hb.block b (Nat.lt_of_lt_of_le h2 hB))
theorem DrD.up {w : World} {lo hi : Nat} {v : Value} {ks : List E} (h : DrD w lo hi v ks) (hhi : hi ≤ w.heap.size) : DrD w lo w.heap.size v ks := h.keep hhi hhi (fun _ _ _ => rfl)
theorem DrD.touch' {w w' : World} {R lo : Nat} {v : Value} {ks : List E} (h : DrD w lo w.heap.size v ks) (ht : Touch R w w') (hR : R < lo) : DrD w' lo w'.heap.size v ks := h.keep ht.below.size (Nat.le_refl _) (fun b h1 h2 => ht.above b (by omega) h2)
theorem DrD.slice {w : World} {lo hi : Nat} {v : Value} {ks : List E} (h : DrD w lo hi v ks) : ∃ A c, v = .slice A ks.length c := by
  obtain ⟨xs, f, ho, _⟩ := h
  rcases ho.2 with ⟨rfl, h0⟩ | ⟨g, cap, cur, rfl, _⟩
  · exact ⟨none, 0, by rw [h0]⟩
  · exact ⟨_, cap, rfl⟩
theorem DrD.owned {w : World} {lo hi : Nat} {v : Value} {ks : List E} (h : DrD w lo hi v ks) : ∀ k, v.ownBlock = some k → lo ≤ k ∧ k < w.heap.size := by
  obtain ⟨xs, f, ho, _⟩ := h
  exact World.ownsRow.lt ho
theorem DrD.pd {w : World} {lo hi n c : Nat} {A : Option Addr} {ks : List E} (h : DrD w lo hi (.slice A n c) ks) (hhi : hi ≤ w.heap.size) : PdD w (Between w lo w.heap.size) ks A := by
  obtain ⟨xs, f, ho, hx⟩ := h
  rcases ho.2 with ⟨e, h0⟩ | ⟨g, cap, cur, e, hg, hb, hn, hm, hs, ht⟩
  · exact .inl (List.length_eq_zero_iff.1 h0)
  · injection e with e1 e2 e3
    subst e1
    have hlt : g < w.heap.size := (Array.getElem?_eq_some_iff.1 hb).1
    refine .inr ⟨g, 0, rfl, ⟨hg, hlt, _, _, hb⟩, f, PdDC.mk fun i hi => ?_⟩
    obtain ⟨a, b, cc, A', d, ee, q⟩ := hx i hi
    have cell : ∀ j, j < ks.length * 4 → w.cell? ⟨g, 0 + j, none⟩ = xs[j]? := by
      intro j hj
      rw [Nat.zero_add, ← ht, List.getElem?_take_of_lt hj]
      unfold World.cell?
      simp [hb]
    exact ⟨⟨(cell _ (by omega)).trans a, (cell _ (by omega)).trans b, (cell _ (by omega)).trans cc⟩, A', d, (cell _ (by omega)).trans ee, q.keep (fun _ _ _ => rfl) (fun x h => ⟨⟨⟨h.1.1.1, Nat.lt_of_lt_of_le h.1.1.2.1 hhi, h.1.1.2.2⟩, fun e => h.1.2 (by rw [e]; rfl)⟩, by rw [Nat.zero_add]; exact h.2⟩)⟩
/-- One Kid more, whose blocks lie from block x on. -/
theorem DrD.snoc {w w' : World} {lo x n g cap : Nat} {v : Value} {ks : List E} {xs : List Value} {f : Nat → Nat} (k : Kd)
    (hx : ∀ j, (h : j < ks.length) → xs[j * 4]? = some (.int .i64 ks[j].op) ∧ xs[j * 4 + 1]? = some (.int .i64 ks[j].n) ∧ xs[j * 4 + 2]? = some (.string ks[j].name) ∧ ∃ A c, xs[j * 4 + 3]? = some (.slice A ks[j].kids.length c) ∧ PdD w (fun b => (Between w lo x b ∧ v.ownBlock ≠ some b) ∧ f b = j) ks[j].kids A)
    (hl : xs.length = ks.length * 4) (hn : ks.length = n) (hlx : lo ≤ x) (hxs : x ≤ w.heap.size) (hown : w'.ownsRow lo 28 4 (.slice (some ⟨g, 0, none⟩) (n + 1) cap) (n + 1) (xs ++ k.cells)) (hg : w.grownBy w' v.ownBlock) (hat : v.ownBlock = some g ∨ g = w.heap.size)
    (hk : PdD w (fun b => Between w x w.heap.size b ∧ v.ownBlock ≠ some b) k.e.kids k.A) : DrD w' lo w.heap.size (.slice (some ⟨g, 0, none⟩) (n + 1) cap) (ks ++ [k.e]) := by
  have own : ∀ b, b < w.heap.size → v.ownBlock ≠ some b → (Value.slice (some ⟨g, 0, none⟩) (n + 1) cap).ownBlock ≠ some b := by
    intro b hb hv e
    have e : g = b := by injection e
    rcases hat with h1 | h1
    · exact hv (by rw [h1, e])
    · omega
  refine ⟨xs ++ k.cells, fun b => if b < x then f b else ks.length, ?_, fun j hj => ?_⟩
  · rw [List.length_append, hn]; exact hown
  · by_cases hjk : j < ks.length
    · obtain ⟨a, b, c, A, d, e, q⟩ := hx j hjk
      rw [List.getElem_append_left hjk]
      have q' : PdD w' (fun b => (Between w' lo w.heap.size b ∧ (Value.slice (some ⟨g, 0, none⟩) (n + 1) cap).ownBlock ≠ some b) ∧ (if b < x then f b else ks.length) = j) ks[j].kids A := by
        refine q.keep (fun b o hb => World.cell?_of_block (hg.block b (Nat.lt_of_lt_of_le hb.1.1.2.1 hxs) (fun e => hb.1.2 e.symm))) (fun b hb => ?_)
        have hbw := Nat.lt_of_lt_of_le hb.1.1.2.1 hxs
        exact ⟨⟨⟨hb.1.1.1, hbw, flat_of_eq hb.1.1.2.2 (hg.block b hbw (fun e => hb.1.2 e.symm))⟩, own b hbw hb.1.2⟩, by rw [if_pos hb.1.1.2.1]; exact hb.2⟩
      refine ⟨?_, ?_, ?_, A, d, ?_, q'⟩ <;> (rw [List.getElem?_append_left (by omega)]; assumption)
    · have hj' : j = ks.length := by simp at hj; omega
      subst hj'
      simp only [List.getElem_concat_length]
      have at_ : ∀ i, i < 4 → (xs ++ k.cells)[ks.length * 4 + i]? = k.cells[i]? := by
        intro i hi
        rw [List.getElem?_append_right (by omega), hl]
        congr 1
        omega
      refine ⟨at_ 0 (by omega), at_ 1 (by omega), at_ 2 (by omega), k.A, k.c, at_ 3 (by omega), ?_⟩
      refine hk.keep (fun b o hb => World.cell?_of_block (hg.block b hb.1.2.1 (fun e => hb.2 e.symm))) (fun b hb => ?_)
      exact ⟨⟨⟨Nat.le_trans hlx hb.1.1, hb.1.2.1, flat_of_eq hb.1.2.2 (hg.block b hb.1.2.1 (fun e => hb.2 e.symm))⟩, own b hb.1.2.1 hb.2⟩, by rw [if_neg (by have := hb.1.1; omega)]⟩
end Go.Proofs.YtljdbjfbcjigaaaGreatDoor
