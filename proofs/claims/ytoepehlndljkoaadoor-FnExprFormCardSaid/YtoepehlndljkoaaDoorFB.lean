/-
  Words put behind a list by the program: a Kid with its brackets.
-/
import Derived.Test.YtoepehlndljkoaaDoorFA
import Derived.Deep.RegionWith
namespace Go.Proofs.YtoepehlndljkoaaDoor
open Go.RowKit Go.Maps
set_option maxRecDepth 100000

theorem Bx4.put {w w' : World} {base k : Nat} {v v' v0 v1 v2 v3 : Value} (h : Bx4 w k v0 v1 v2 v3) (hp : Put base v v' w w') (hk : k < w.heap.size) (hne : v.ownBlock ≠ some k) : Bx4 w' k v0 v1 v2 v3 :=
  ⟨(hp.cell hk hne).trans h.1, (hp.cell hk hne).trans h.2.1, (hp.cell hk hne).trans h.2.2.1, (hp.cell hk hne).trans h.2.2.2⟩
/-- The block with the closing bracket. -/
def Gf (v : Value) (g : Nat) (w : World) : Prop := w.cell? ⟨g, 0, none⟩ = some (.string ⟨#[41]⟩) ∧ v.ownBlock ≠ some g ∧ g < w.heap.size
theorem Gf.put {v v' : Value} {g base : Nat} {a b : World} (h : Gf v g a) (hp : Put base v v' a b) : Gf v' g b :=
  ⟨(hp.cell h.2.2 h.2.1).trans h.1, hp.ne h.2.2 h.2.1, Nat.lt_of_lt_of_le h.2.2 hp.below.size⟩
/-- Behind the first bracket. -/
def Lp1 (base : Nat) (v : Value) (l : List W) (W0 : World) (k : Nat) (a b c d : Value) (ee : Ending) (w1 : World) : Prop :=
  ∃ v1, ee = .returned v1 ∧ WRow w1 base v1 (l ++ [(3, ⟨#[40]⟩)]) ∧ Put base v v1 W0 w1 ∧ Bx4 w1 k a b c d ∧ Bx4 (w1.alloc (.cells #[.string ⟨#[41]⟩] 9)) k a b c d
def Lp2 (base : Nat) (v : Value) (l : List W) (W0 : World) (k g : Nat) (a b c d : Value) (ee : Ending) (w1 : World) : Prop :=
  ∃ v1, ee = .returned v1 ∧ WRow w1 base v1 (l ++ [(3, ⟨#[40]⟩)]) ∧ Put base v v1 W0 w1 ∧ Bx4 w1 k a b c d ∧ Gf v1 g w1
theorem kind_lp : runKind ⟨#[40]⟩ = 3 := runKind_sign (by decide)
theorem kind_rp : runKind ⟨#[41]⟩ = 3 := runKind_sign (by decide)
theorem kind_cm : runKind ⟨#[44]⟩ = 3 := runKind_sign (by decide)
theorem Bx4.grow {w : World} {k : Nat} {a b c d : Value} (h : Bx4 w k a b c d) (hk : k < w.heap.size) (o : Obj) : Bx4 (w.alloc o) k a b c d := h.below ((Below.refl w.heap.size w).alloc (Nat.le_refl _) o) hk
theorem lp_a (base : Nat) (v : Value) (l : List W) (w : World) (k : Nat) (a b c d : Value) (hW : WRow w base v l) (hE : Env base w) (hl : l.length ≤ 1000000) (hB : Bx4 w k a b c d) (hk : k < w.heap.size) (hne : v.ownBlock ≠ some k) :
    Calls Tryd.prog 34 #[v, .slice (some ⟨w.heap.size, 0, none⟩) 1 1] (w.alloc (.cells #[.string ⟨#[40]⟩] 9)) (Lp1 base v l w k a b c d) :=
  (addText_one base v l ⟨#[40]⟩ 3 w hW hE (by decide) kind_lp hl).mono fun ee w' ⟨v', h1, h2, h3⟩ => ⟨v', h1, h2, h3, hB.put h3 hk hne, (hB.put h3 hk hne).grow (Nat.lt_of_lt_of_le hk h3.below.size) _⟩
theorem lp_b (base : Nat) (v : Value) (l : List W) (w : World) (k : Nat) (a b c d : Value) (hW : WRow w base v l) (hE : Env base w) (hl : l.length ≤ 1000000) (hB : Bx4 w k a b c d) (hk : k < w.heap.size) (hne : v.ownBlock ≠ some k) :
    Calls Tryd.prog 34 #[v, .slice (some ⟨w.heap.size + 1, 0, none⟩) 1 1] ((w.alloc (.cells #[.string ⟨#[41]⟩] 9)).alloc (.cells #[.string ⟨#[40]⟩] 9)) (Lp2 base v l w k w.heap.size a b c d) := by
  have hal := (Below.refl w.heap.size w).alloc (Nat.le_refl _) (.cells #[.string ⟨#[41]⟩] 9)
  have hz : (w.alloc (.cells #[.string ⟨#[41]⟩] 9)).heap.size = w.heap.size + 1 := World.size_alloc _ _
  have C := addText_one base v l ⟨#[40]⟩ 3 (w.alloc (.cells #[.string ⟨#[41]⟩] 9)) (hW.below hal) (hE.next (hal.mono hE.1)) (by decide) kind_lp hl
  rw [hz] at C
  have hg : Gf v w.heap.size (w.alloc (.cells #[.string ⟨#[41]⟩] 9)) := ⟨alloc_cell w _ _ (0, 0) 0, hW.free (Nat.le_refl _), by omega⟩
  exact C.mono fun ee w' ⟨v', h1, h2, h3⟩ => ⟨v', h1, h2, (Put.of_below hal hE.1).trans h3, (hB.grow hk _).put h3 (by omega) hne, hg.put h3⟩
theorem lp_c (base : Nat) (v : Value) (l : List W) (w : World) (k : Nat) (a b c d : Value) (hW : WRow w base v l) (hE : Env base w) (hl : l.length ≤ 1000000) (hB : Bx4 w k a b c d) (hk : k < w.heap.size) (hne : v.ownBlock ≠ some k) :
    Calls Tryd.prog 34 #[v, .slice (some ⟨w.heap.size, 0, none⟩) 1 1] ((w.alloc (.cells #[.string ⟨#[40]⟩] 9)).alloc (.cells #[.string ⟨#[41]⟩] 9)) (Lp2 base v l w k (w.heap.size + 1) a b c d) := by
  have hal := (Below.refl w.heap.size w).alloc (Nat.le_refl _) (.cells #[.string ⟨#[40]⟩] 9)
  have hz : (w.alloc (.cells #[.string ⟨#[40]⟩] 9)).heap.size = w.heap.size + 1 := World.size_alloc _ _
  have hal2 := hal.trans (((Below.refl (w.alloc (.cells #[.string ⟨#[40]⟩] 9)).heap.size (w.alloc (.cells #[.string ⟨#[40]⟩] 9))).alloc (Nat.le_refl _) (.cells #[.string ⟨#[41]⟩] 9)).mono hal.size)
  have hz2 : ((w.alloc (.cells #[.string ⟨#[40]⟩] 9)).alloc (.cells #[.string ⟨#[41]⟩] 9)).heap.size = w.heap.size + 1 + 1 := by rw [World.size_alloc, hz]
  have c0 : ((w.alloc (.cells #[.string ⟨#[40]⟩] 9)).alloc (.cells #[.string ⟨#[41]⟩] 9)).cell? ⟨w.heap.size, 0, none⟩ = some (.string ⟨#[40]⟩) :=
    (((Below.refl (w.alloc (.cells #[.string ⟨#[40]⟩] 9)).heap.size _).alloc (Nat.le_refl _) _).cell (p := ⟨w.heap.size, 0, none⟩) (by show w.heap.size < _; omega)).trans (alloc_cell w _ _ (0, 0) 0)
  have c1 : ((w.alloc (.cells #[.string ⟨#[40]⟩] 9)).alloc (.cells #[.string ⟨#[41]⟩] 9)).cell? ⟨w.heap.size + 1, 0, none⟩ = some (.string ⟨#[41]⟩) := by
    have h := alloc_cell (w.alloc (.cells #[.string ⟨#[40]⟩] 9)) #[.string ⟨#[41]⟩] 9 (0, 0) 0
    rw [hz] at h
    exact h
  have hg : Gf v (w.heap.size + 1) ((w.alloc (.cells #[.string ⟨#[40]⟩] 9)).alloc (.cells #[.string ⟨#[41]⟩] 9)) := ⟨c1, hW.free (Nat.le_succ _), by omega⟩
  have C := addTexts_any base w.heap.size 1 v l [⟨#[40]⟩] _ (hW.below hal2) (hE.next (hal2.mono hE.1)) (hW.free (Nat.le_refl _)) (by omega) (fun j hj => by
    obtain rfl : j = 0 := by simpa using hj
    exact c0) (fun x hx => by simp at hx; subst hx; decide) (by simp only [List.length_cons, List.length_nil]; omega)
  exact C.mono fun ee w' ⟨v', h1, h2, h3⟩ => ⟨v', h1, by rw [← kind_lp]; exact h2, (Put.of_below hal2 hE.1).trans h3, (hB.below hal2 hk).put h3 (by omega) hne, hg.put h3⟩
/-- The closing bracket, out of a block that was there. -/
theorem rp_known (base g : Nat) (v : Value) (l : List W) (w : World) (hW : WRow w base v l) (hE : Env base w) (hg : Gf v g w) (hl : l.length ≤ 1000000) :
    Calls Tryd.prog 34 #[v, .slice (some ⟨g, 0, none⟩) 1 1] w (AddRet base v (l ++ [(3, ⟨#[41]⟩)]) w) := by
  have C := addTexts_any base g 1 v l [⟨#[41]⟩] w hW hE hg.2.1 hg.2.2 (fun j hj => by
    obtain rfl : j = 0 := by simpa using hj
    exact hg.1) (fun x hx => by simp at hx; subst hx; decide) (by simp only [List.length_cons, List.length_nil]; omega)
  rw [show ([⟨#[41]⟩] : List ByteArray).map wd = [(3, ⟨#[41]⟩)] by show [wd ⟨#[41]⟩] = _; unfold wd; rw [kind_rp]] at C
  exact C
theorem rp_new (base : Nat) (v : Value) (l : List W) (w : World) (hW : WRow w base v l) (hE : Env base w) (hl : l.length ≤ 1000000) :
    Calls Tryd.prog 34 #[v, .slice (some ⟨w.heap.size, 0, none⟩) 1 1] (w.alloc (.cells #[.string ⟨#[41]⟩] 9)) (AddRet base v (l ++ [(3, ⟨#[41]⟩)]) w) :=
  addText_one base v l ⟨#[41]⟩ 3 w hW hE (by decide) kind_rp hl
/-- A number, and new blocks at most. -/
def LvlB (n : Nat) (w : World) (e : Ending) (w' : World) : Prop := e = .returned (.int .i64 (n : Int)) ∧ Below w.heap.size w w'
set_option maxHeartbeats 400000 in
theorem binds_number (w : World) : Calls Tryd.prog 110 #[.agg #[]] w (LvlB 6 w) := by
  have hb := (Below.refl w.heap.size w).alloc (Nat.le_refl _) (.cells #[] 61)
  go_enter Tryd.func110, Tryd.ntmps110
  go_wp2
  go_ret
  exact ⟨rfl, hb⟩
set_option maxHeartbeats 400000 in
theorem binds_variable (w : World) : Calls Tryd.prog 112 #[.agg #[]] w (LvlB 6 w) := by
  have hb := (Below.refl w.heap.size w).alloc (Nat.le_refl _) (.cells #[] 63)
  go_enter Tryd.func112, Tryd.ntmps112
  go_wp2
  go_ret
  exact ⟨rfl, hb⟩
set_option maxHeartbeats 400000 in
theorem binds_call (w : World) : Calls Tryd.prog 117 #[.agg #[]] w (LvlB 6 w) := by
  have hb := (Below.refl w.heap.size w).alloc (Nat.le_refl _) (.cells #[] 70)
  go_enter Tryd.func117, Tryd.ntmps117
  go_wp2
  go_ret
  exact ⟨rfl, hb⟩
set_option maxHeartbeats 400000 in
theorem binds_signed (z : Int) (s : ByteArray) (n : Nat) (w : World) : Calls Tryd.prog 114 #[.agg #[.int .i64 z, .string s, .int .i64 (n : Int)]] w (LvlB n w) := by
  have hb := (Below.refl w.heap.size w).alloc (Nat.le_refl _) (.cells #[.int .i64 z, .string s, .int .i64 (n : Int)] 65)
  go_enter Tryd.func114, Tryd.ntmps114
  go_wp2
  go_ret
  exact ⟨rfl, hb⟩
theorem take_signed (h : 65 < Tryd.prog.types.size) (a b c : Value) : (List.take (Tryd.prog.types[65]'h).size [a, b, c]).toArray = #[a, b, c] := by kernel_rfl
/-- Putting an expression's words, for the depth d. -/
def AddE (d : Nat) : Prop := ∀ (e : E) (_ : formE d e = true) (A : Option Addr) (cap : Nat) (w : World) (base : Nat) (v : Value) (l : List W), WRow w base v l → Env base w → RdS w base e.kids A → l.length + 6 * sizeE e ≤ 1000000 →
  Calls Tryd.prog 19 #[v, exV e A cap] w (AddRet base v (l ++ wE e 0) w)
set_option maxHeartbeats 4000000 in
theorem addKid_any (d : Nat) (HE : AddE d) (e : E) (hf : formE d e = true) (least : Nat) (hle : least ≤ 6) (A : Option Addr) (cap : Nat) (w : World) (base : Nat) (v : Value) (l : List W) (hW : WRow w base v l) (hE : Env base w) (hR : RdS w base e.kids A) (hl : l.length + 1 + 6 * sizeE e ≤ 1000000) :
    Calls Tryd.prog 36 #[v, exV e A cap, .int .i64 (least : Int)] w (AddRet base v (l ++ wE e least) w) := by
  have hop : e.op = 1 ∨ e.op = 2 ∨ e.op = 13 ∨ (e.op = 11 ∨ e.op = 12) ∨ (3 ≤ e.op ∧ e.op ≤ 10) := by
    rcases fitB_cases (formE_fit hf) with ⟨h, _⟩ | ⟨h, _⟩ | ⟨h, _⟩ | ⟨h, _⟩ | ⟨h, _⟩
    · exact .inl h
    · exact .inr (.inl h)
    · exact .inr (.inr (.inl h))
    · exact .inr (.inr (.inr (.inl h)))
    · exact .inr (.inr (.inr (.inr h)))
  have hwd := wE_bd d e hf 0
  have hsp := sizeE_pos e
  have HL := Lib.hid (show wE e least = if lvl e.op < least then (3, lpS) :: (wE e 0 ++ [(3, rpS)]) else wE e 0 by
    rw [wE_bare e (show 0 ≤ lvl e.op by omega), wE_eq]
    by_cases h : lvl e.op < least
    · rw [if_pos h, decide_eq_true h]; rfl
    · rw [if_neg h, decide_eq_false h]; rfl)
  have HEx := fun W v' l' (h1 : WRow W base v' l') (h2 : Below base w W) (h3 : l'.length ≤ l.length + 1) => Lib.hid (HE e hf A cap W base v' l' h1 (hE.next h2) (hR.below h2) (by omega))
  clear HE hf
  unfold exV at HEx ⊢
  generalize wE e 0 = we at *
  generalize wE e least = wl at *
  obtain ⟨op, n, s, ks⟩ := e
  dsimp only [E.op, E.n, E.name, E.kids] at *
  have hbs := hE.1
  obtain ⟨A1, cap1, rfl⟩ := hW.slice
  obtain ⟨c0, c1, c2, c3, hlt, hb⟩ := box_cells w (.int .i64 op) (.int .i64 n) (.string s) (.slice A ks.length cap) 30
  have HB4 := Lib.hid (show Bx4 _ w.heap.size _ _ _ _ from ⟨c0, c1, c2, c3⟩)
  have hfree := hW.free (Nat.le_refl w.heap.size)
  have HF := Lib.hid hfree
  have HW1 := Lib.hid (hW.below hb)
  have KO := fun W (h : Below base w W) => kindOf_any op W (hE.2 W h).1
  have HEV := Lib.hid hE
  have HBB := Lib.hid (hb.mono hbs)
  clear hfree hW hE hR
  go_enter Tryd.func36, Tryd.ntmps36
  go_upto_region 1 with (fail)
  generalize w.alloc (.cells #[.int .i64 op, .int .i64 n, .string s, .slice A ks.length cap] 30) = wa at *
  obtain ⟨bl, hbl⟩ : ∃ bl : Bool, bl = decide (least ≤ lvl op) := ⟨_, rfl⟩
  have HBL := Lib.hid hbl
  clear hbl
  go_cut [12] (fun v' wx => v' = .bool bl ∧ Below wa.heap.size wa wx)
  case first =>
    have HBA := HBB
    clear HB4 HW1 HF HEx HBB HL c1 c2 c3 hb
    rcases hop with rfl | rfl | rfl | ho | ho
    · have K1 := Lib.hid (KO _ HBA.out)
      clear KO
      have e1 : kindV 1 = .iface 61 (.agg #[]) := rfl
      rw [e1] at K1
      clear e1
      go_wp2_with fail
      (with_reducible refine Calls.mono K1.out ?_)
      rintro ee w1 ⟨rfl, hb1⟩
      go_wp2_with fail
      (with_reducible refine Calls.mono (binds_number _) ?_)
      rintro ee w2 ⟨rfl, hb2⟩
      have hb3 := hb1.trans (hb2.mono hb1.size)
      go_wp2
      go_meet
      refine ⟨?_, hb3⟩
      rw [HBL.out]
      show Value.bool _ = Value.bool (decide (least ≤ 6))
      congr 1
      rw [Bool.eq_iff_iff]; simp; omega
    · have K1 := Lib.hid (KO _ HBA.out)
      clear KO
      have e1 : kindV 2 = .iface 63 (.agg #[]) := rfl
      rw [e1] at K1
      clear e1
      go_wp2_with fail
      (with_reducible refine Calls.mono K1.out ?_)
      rintro ee w1 ⟨rfl, hb1⟩
      go_wp2_with fail
      (with_reducible refine Calls.mono (binds_variable _) ?_)
      rintro ee w2 ⟨rfl, hb2⟩
      have hb3 := hb1.trans (hb2.mono hb1.size)
      go_wp2
      go_meet
      refine ⟨?_, hb3⟩
      rw [HBL.out]
      show Value.bool _ = Value.bool (decide (least ≤ 6))
      congr 1
      rw [Bool.eq_iff_iff]; simp; omega
    · have K1 := Lib.hid (KO _ HBA.out)
      clear KO
      have e1 : kindV 13 = .iface 70 (.agg #[]) := rfl
      rw [e1] at K1
      clear e1
      go_wp2_with fail
      (with_reducible refine Calls.mono K1.out ?_)
      rintro ee w1 ⟨rfl, hb1⟩
      go_wp2_with fail
      (with_reducible refine Calls.mono (binds_call _) ?_)
      rintro ee w2 ⟨rfl, hb2⟩
      have hb3 := hb1.trans (hb2.mono hb1.size)
      go_wp2
      go_meet
      refine ⟨?_, hb3⟩
      rw [HBL.out]
      show Value.bool _ = Value.bool (decide (least ≤ 6))
      congr 1
      rw [Bool.eq_iff_iff]; simp; omega
    · have K0 := KO _ HBA.out
      rw [kindV_un ho] at K0
      have K1 := Lib.hid K0
      have HO := Lib.hid ho
      clear KO K0 ho
      generalize lvl op = lv at *
      go_wp2_with fail
      (with_reducible refine Calls.mono K1.out ?_)
      rintro ee w1 ⟨rfl, hb1⟩
      go_wp2_with fail
      rw [take_signed]
      (with_reducible refine Calls.mono (binds_signed _ _ _ _) ?_)
      rintro ee w2 ⟨rfl, hb2⟩
      have hb3 := hb1.trans (hb2.mono hb1.size)
      go_wp2
      go_meet
      exact ⟨by rw [HBL.out], hb3⟩
    · have K0 := KO _ HBA.out
      rw [kindV_bin ho] at K0
      have K1 := Lib.hid K0
      have HO := Lib.hid ho
      clear KO K0 ho
      generalize lvl op = lv at *
      go_wp2_with fail
      (with_reducible refine Calls.mono K1.out ?_)
      rintro ee w1 ⟨rfl, hb1⟩
      go_wp2_with fail
      rw [take_signed]
      (with_reducible refine Calls.mono (binds_signed _ _ _ _) ?_)
      rintro ee w2 ⟨rfl, hb2⟩
      have hb3 := hb1.trans (hb2.mono hb1.size)
      go_wp2
      go_meet
      exact ⟨by rw [HBL.out], hb3⟩
  case rest =>
    obtain ⟨rfl, hb1⟩ := hcut
    obtain ⟨k0, k1, k2, k3⟩ := HB4.out.below hb1 hlt
    have hwl : w.heap.size ≤ wc.heap.size := Nat.le_trans (Nat.le_of_lt hlt) hb1.size
    have hbw : Below w.heap.size w wc := hb.trans (hb1.mono (Nat.le_of_lt hlt))
    have HWc := Lib.hid (HW1.out.below hb1)
    have hltc : w.heap.size < wc.heap.size := Nat.lt_of_lt_of_le hlt hb1.size
    have hbb : Below base w wc := hbw.mono hbs
    have HP0 := Lib.hid (Put.of_below (v := .slice A1 l.length cap1) hbw hbs)
    cases bl
    · have HL1 := Lib.hid (HL.out.trans (if_pos (by have := of_decide_eq_false HBL.out.symm; omega)))
      clear HL HBL HW1 hb hb1 c0 c1 c2 c3 KO
      obtain ⟨wx, rfl⟩ : ∃ wx : World, wx = wc := ⟨_, rfl⟩
      have hbz : base ≤ wx.heap.size := Nat.le_trans hbs hwl
      have hbx4 : Bx4 wx w.heap.size (.int .i64 op) (.int .i64 n) (.string s) (.slice A ks.length cap) := ⟨k0, k1, k2, k3⟩
      have hEx : Env base wx.drew := HEV.out.next hbb.drew
      have A1a := Lib.hid (show Calls Tryd.prog 34 #[.slice A1 l.length cap1, .slice (some ⟨wx.heap.size, 0, none⟩) 1 1] (wx.alloc (.cells #[.string ⟨#[40]⟩] 9)).drew (Lp1 base (.slice A1 l.length cap1) l wx.drew w.heap.size (.int .i64 op) (.int .i64 n) (.string s) (.slice A ks.length cap)) from lp_a base (.slice A1 l.length cap1) l wx.drew w.heap.size (.int .i64 op) (.int .i64 n) (.string s) (.slice A ks.length cap) HWc.out hEx (by omega) hbx4 hltc HF.out)
      have A1b := Lib.hid (show Calls Tryd.prog 34 #[.slice A1 l.length cap1, .slice (some ⟨wx.heap.size + 1, 0, none⟩) 1 1] ((wx.alloc (.cells #[.string ⟨#[41]⟩] 9)).alloc (.cells #[.string ⟨#[40]⟩] 9)).drew (Lp2 base (.slice A1 l.length cap1) l wx.drew w.heap.size wx.heap.size (.int .i64 op) (.int .i64 n) (.string s) (.slice A ks.length cap)) from lp_b base (.slice A1 l.length cap1) l wx.drew w.heap.size (.int .i64 op) (.int .i64 n) (.string s) (.slice A ks.length cap) HWc.out hEx (by omega) hbx4 hltc HF.out)
      have A1c := Lib.hid (show Calls Tryd.prog 34 #[.slice A1 l.length cap1, .slice (some ⟨wx.heap.size, 0, none⟩) 1 1] ((wx.alloc (.cells #[.string ⟨#[40]⟩] 9)).alloc (.cells #[.string ⟨#[41]⟩] 9)).drew (Lp2 base (.slice A1 l.length cap1) l wx.drew w.heap.size (wx.heap.size + 1) (.int .i64 op) (.int .i64 n) (.string s) (.slice A ks.length cap)) from lp_c base (.slice A1 l.length cap1) l wx.drew w.heap.size (.int .i64 op) (.int .i64 n) (.string s) (.slice A ks.length cap) HWc.out hEx (by omega) hbx4 hltc HF.out)
      obtain ⟨a0, a1, a2, a3⟩ := hbx4.grow hltc (.cells #[.string ⟨#[40]⟩] 9)
      obtain ⟨b0, b1, b2, b3⟩ := hbx4.grow hltc (.cells #[.string ⟨#[41]⟩] 9)
      obtain ⟨d0, d1, d2, d3⟩ := (hbx4.grow hltc (.cells #[.string ⟨#[40]⟩] 9)).grow (Nat.lt_of_lt_of_le hltc (by rw [World.size_alloc]; omega)) (.cells #[.string ⟨#[41]⟩] 9)
      obtain ⟨f0, f1, f2, f3⟩ := (hbx4.grow hltc (.cells #[.string ⟨#[41]⟩] 9)).grow (Nat.lt_of_lt_of_le hltc (by rw [World.size_alloc]; omega)) (.cells #[.string ⟨#[40]⟩] 9)
      have HBD := Lib.hid (show Below base w wx.drew from hbb.drew)
      have KE := fun v1 w1 (h0 : WRow w1 base v1 (l ++ [(3, ⟨#[40]⟩)])) (h1 : Below base w w1) => HEx w1 v1 _ h0 h1 (by rw [List.length_append]; exact Nat.le_refl _)
      have KR := fun v2 w2 g (h0 : WRow w2 base v2 (l ++ [(3, ⟨#[40]⟩)] ++ we)) (h1 : Below base w w2) (h2 : Gf v2 g w2) => Lib.hid (rp_known base g v2 _ w2 h0 (HEV.out.next h1) h2 (by simp only [List.length_append, List.length_cons, List.length_nil]; omega))
      have KN := fun v2 w2 (h0 : WRow w2 base v2 (l ++ [(3, ⟨#[40]⟩)] ++ we)) (h1 : Below base w w2) => Lib.hid (rp_new base v2 _ w2 h0 (HEV.out.next h1) (by simp only [List.length_append, List.length_cons, List.length_nil]; omega))
      have HLX := Lib.hid hltc
      clear hbx4 hEx hltc
      go_wp2
      go_region_with (first
        | (go_at_call 34; (with_reducible refine Calls.mono A1a.out ?_); rintro ee w1 ⟨v1, rfl, hW1, hp1, ⟨m0, m1, m2, m3⟩, ⟨n0, n1, n2, n3⟩⟩)
        | (go_at_call 34; (with_reducible refine Calls.mono A1b.out ?_); rintro ee w1 ⟨v1, rfl, hW1, hp1, ⟨m0, m1, m2, m3⟩, hg1⟩)
        | (go_at_call 34; (with_reducible refine Calls.mono A1c.out ?_); rintro ee w1 ⟨v1, rfl, hW1, hp1, ⟨m0, m1, m2, m3⟩, hg1⟩)
        | (go_at_call 19; (with_reducible refine Calls.mono (KE _ _ hW1 (HBD.out.trans hp1.below)).out ?_); rintro ee w2 ⟨v2, rfl, hW2, hp2⟩; have hp12 := hp1.trans hp2; have hg2 := hg1.put hp2)
        | (go_at_call 19; (with_reducible refine Calls.mono (KE _ _ hW1 (HBD.out.trans hp1.below)).out ?_); rintro ee w2 ⟨v2, rfl, hW2, hp2⟩; have hp12 := hp1.trans hp2)
        | (go_at_call 19; (with_reducible refine Calls.mono (KE _ (w1.alloc (.cells #[.string ⟨#[41]⟩] 9)) (hW1.below ((Below.refl _ _).alloc (Nat.le_refl _) _)) ((HBD.out.trans hp1.below).alloc (Nat.le_trans hbs (HBD.out.trans hp1.below).size) _)).out ?_); rintro ee w2 ⟨v2, rfl, hW2, hp2⟩; have hp12 := (hp1.trans (Put.of_below ((Below.refl _ _).alloc (Nat.le_refl _) _) (Nat.le_trans hbz hp1.below.size))).trans hp2; have hg2 := Gf.put (g := w1.heap.size) ⟨alloc_cell w1 _ _ (0, 0) 0, hW1.free (Nat.le_refl _), by rw [World.size_alloc]; omega⟩ hp2)
        | (go_at_call 34; (with_reducible refine Calls.mono (KR _ _ _ hW2 (HBD.out.trans hp12.below) hg2).out ?_); rintro ee w3 ⟨v3, rfl, hW3, hp3⟩; have HW6 := Lib.hid hW3; have HQ := Lib.hid (hp12.trans hp3))
        | (go_at_call 34; (with_reducible refine Calls.mono (KN _ _ hW2 (HBD.out.trans hp12.below)).out ?_); rintro ee w3 ⟨v3, rfl, hW3, hp3⟩; have HW6 := Lib.hid hW3; have HQ := Lib.hid (hp12.trans hp3)))
      all_goals
        clear hW3 hp3 hW2 hp2 hp12 hW1 hp1
        go_wp2
        go_ret
        refine ⟨_, rfl, ?_, (HP0.out.trans (Put.of_below (Below.refl _ _).drew hbz)).trans HQ.out⟩
        rw [HL1.out]
        have := HW6.out
        rw [List.append_assoc, List.append_assoc] at this
        exact this
    · have HL1 := Lib.hid (HL.out.trans (if_neg (by have := of_decide_eq_true HBL.out.symm; omega)))
      have HX := Lib.hid (HEx wc _ l HWc.out hbb (by omega)).out
      clear HL HBL HW1 hb hb1 c0 c1 c2 c3 KO HEx
      go_wp2_with fail
      (with_reducible refine Calls.mono HX.out ?_)
      rintro ee w2 ⟨v2, rfl, hW3, hp2⟩
      have HW4 := Lib.hid hW3
      have HQ2 := Lib.hid hp2
      clear hW3 hp2
      go_wp2
      go_ret
      exact ⟨_, rfl, by rw [HL1.out]; exact HW4.out, HP0.out.trans HQ2.out⟩
end Go.Proofs.YtoepehlndljkoaaDoor
