/-
  Words put behind a list by the program: a Kid with its brackets.
-/
import Derived.Test.YtgkfakbbinkbcaaDoorF8
namespace Go.Proofs.YtgkfakbbinkbcaaDoor
open Go.RowKit Go.Maps
set_option maxRecDepth 100000

theorem WRow.below {w w' : World} {base : Nat} {v : Value} {l : List W} (h : WRow w base v l) (hb : Below w.heap.size w w') : WRow w' base v l :=
  World.ownsRow.kept (row := none) h ⟨hb.os, hb.tape, hb.output, hb.size, fun i hi _ => hb.block i hi⟩ (Classical.em _)
theorem WRow.nil (w : World) (base : Nat) : WRow w base (.slice none 0 0) [] := ⟨rfl, .inl ⟨rfl, rfl⟩⟩
theorem Put.ne {base : Nat} {v v' : Value} {w w' : World} (h : Put base v v' w w') {k : Nat} (hk : k < w.heap.size) (hne : v.ownBlock ≠ some k) : v'.ownBlock ≠ some k := by
  rcases h.own with e | ⟨g, e, hg⟩
  · rw [e]; exact hne
  · rw [e]; intro e2; injection e2 with e2; omega
/-- What the world keeps for a callee. -/
def Env (base : Nat) (w : World) : Prop := base ≤ w.heap.size ∧ ∀ W, Below base w W → Sgn W ∧ Lib.TabIs Tryd.prog W "internal/strconv.uint64pow10" .u64 Lib.pow10Tab
theorem Env.next {base : Nat} {w w' : World} (h : Env base w) (hb : Below base w w') : Env base w' := ⟨Nat.le_trans h.1 hb.size, fun W hw => h.2 W (hb.trans hw)⟩
theorem Bx4.put {w w' : World} {base k : Nat} {v v' v0 v1 v2 v3 : Value} (h : Bx4 w k v0 v1 v2 v3) (hp : Put base v v' w w') (hk : k < w.heap.size) (hne : v.ownBlock ≠ some k) : Bx4 w' k v0 v1 v2 v3 :=
  ⟨(hp.cell hk hne).trans h.1, (hp.cell hk hne).trans h.2.1, (hp.cell hk hne).trans h.2.2.1, (hp.cell hk hne).trans h.2.2.2⟩
/-- A number, and new blocks at most. -/
def LvlB (n : Nat) (w : World) (e : Ending) (w' : World) : Prop := e = .returned (.int .i64 (n : Int)) ∧ Below w.heap.size w w'
set_option maxHeartbeats 400000 in
theorem binds_number (w : World) : Calls Tryd.prog 146 #[.agg #[]] w (LvlB 6 w) := by
  have hb := (Below.refl w.heap.size w).alloc (Nat.le_refl _) (.cells #[] 92)
  go_enter Tryd.func146, Tryd.ntmps146
  go_wp2
  go_ret
  exact ⟨rfl, hb⟩
set_option maxHeartbeats 400000 in
theorem binds_variable (w : World) : Calls Tryd.prog 148 #[.agg #[]] w (LvlB 6 w) := by
  have hb := (Below.refl w.heap.size w).alloc (Nat.le_refl _) (.cells #[] 94)
  go_enter Tryd.func148, Tryd.ntmps148
  go_wp2
  go_ret
  exact ⟨rfl, hb⟩
set_option maxHeartbeats 400000 in
theorem binds_call (w : World) : Calls Tryd.prog 153 #[.agg #[]] w (LvlB 6 w) := by
  have hb := (Below.refl w.heap.size w).alloc (Nat.le_refl _) (.cells #[] 102)
  go_enter Tryd.func153, Tryd.ntmps153
  go_wp2
  go_ret
  exact ⟨rfl, hb⟩
set_option maxHeartbeats 400000 in
theorem binds_signed (z : Int) (s : ByteArray) (n : Nat) (w : World) : Calls Tryd.prog 150 #[.agg #[.int .i64 z, .string s, .int .i64 (n : Int)]] w (LvlB n w) := by
  have hb := (Below.refl w.heap.size w).alloc (Nat.le_refl _) (.cells #[.int .i64 z, .string s, .int .i64 (n : Int)] 96)
  go_enter Tryd.func150, Tryd.ntmps150
  go_wp2
  go_ret
  exact ⟨rfl, hb⟩
theorem take_signed (h : 96 < Tryd.prog.types.size) (a b c : Value) : (List.take (Tryd.prog.types[96]'h).size [a, b, c]).toArray = #[a, b, c] := by kernel_rfl
/-- Putting an expression's words, for the depth d. -/
def AddE (d : Nat) : Prop := ∀ (e : E) (_ : formE d e = true) (A : Option Addr) (cap : Nat) (w : World) (base : Nat) (v : Value) (l : List W), WRow w base v l → Env base w → RdS w base e.kids A → l.length + 6 * sizeE e ≤ 1000000 →
  Calls Tryd.prog 50 #[v, exV e A cap] w (AddRet base v (l ++ wE e 0) w)
set_option maxHeartbeats 4000000 in
theorem addKid_any (d : Nat) (HE : AddE d) (e : E) (hf : formE d e = true) (least : Nat) (hle : least ≤ 6) (A : Option Addr) (cap : Nat) (w : World) (base : Nat) (v : Value) (l : List W) (hW : WRow w base v l) (hE : Env base w) (hR : RdS w base e.kids A) (hl : l.length + 1 + 6 * sizeE e ≤ 1000000) :
    Calls Tryd.prog 73 #[v, exV e A cap, .int .i64 (least : Int)] w (AddRet base v (l ++ wE e least) w) := by
  have hop : e.op = 1 ∨ e.op = 2 ∨ e.op = 13 ∨ (e.op = 11 ∨ e.op = 12) ∨ (3 ≤ e.op ∧ e.op ≤ 10) := by
    rcases fitB_cases (formE_fit hf) with ⟨h, _⟩ | ⟨h, _⟩ | ⟨h, _⟩ | ⟨h, _⟩ | ⟨h, _⟩
    · exact .inl h
    · exact .inr (.inl h)
    · exact .inr (.inr (.inl h))
    · exact .inr (.inr (.inr (.inl h)))
    · exact .inr (.inr (.inr (.inr h)))
  have hwd := wE_bd d e hf 0
  have hsp := sizeE_pos e
  have HL := Lib.hid (show wE e least = if lvl e.op < least then (3, lpS) :: (wE e 0 ++ [(3, rpS)]) else wE e 0 by
    rw [wE_bare e (show 0 ≤ lvl e.op by omega), wE_eq]
    by_cases h : lvl e.op < least
    · rw [if_pos h, decide_eq_true h]; rfl
    · rw [if_neg h, decide_eq_false h]; rfl)
  have HEx := fun W v' l' (h1 : WRow W base v' l') (h2 : Below base w W) (h3 : l'.length ≤ l.length + 1) => Lib.hid (HE e hf A cap W base v' l' h1 (hE.next h2) (hR.below h2) (by omega))
  clear HE hf
  unfold exV at HEx ⊢
  generalize wE e 0 = we at *
  generalize wE e least = wl at *
  obtain ⟨op, n, s, ks⟩ := e
  dsimp only [E.op, E.n, E.name, E.kids] at *
  have hbs := hE.1
  obtain ⟨A1, cap1, rfl⟩ := hW.slice
  obtain ⟨c0, c1, c2, c3, hlt, hb⟩ := box_cells w (.int .i64 op) (.int .i64 n) (.string s) (.slice A ks.length cap) 25
  have HB4 := Lib.hid (show Bx4 _ w.heap.size _ _ _ _ from ⟨c0, c1, c2, c3⟩)
  have hfree := hW.free (Nat.le_refl w.heap.size)
  have HF := Lib.hid hfree
  have HW1 := Lib.hid (hW.below hb)
  have KO := fun W (h : Below base w W) => kindOf_any op W (hE.2 W h).1
  have HBB := Lib.hid (hb.mono hbs)
  clear hfree hW hE hR
  go_enter Tryd.func73, Tryd.ntmps73
  go_upto_region 1 with (fail)
  generalize w.alloc (.cells #[.int .i64 op, .int .i64 n, .string s, .slice A ks.length cap] 25) = wa at *
  obtain ⟨bl, hbl⟩ : ∃ bl : Bool, bl = decide (least ≤ lvl op) := ⟨_, rfl⟩
  have HBL := Lib.hid hbl
  clear hbl
  go_cut [12] (fun v' wx => v' = .bool bl ∧ Below wa.heap.size wa wx)
  case first =>
    have HBA := HBB
    clear HB4 HW1 HF HEx HBB HL c1 c2 c3 hb
    rcases hop with rfl | rfl | rfl | ho | ho
    · have K1 := Lib.hid (KO _ HBA.out)
      clear KO
      have e1 : kindV 1 = .iface 92 (.agg #[]) := rfl
      rw [e1] at K1
      clear e1
      go_wp2_with fail
      (with_reducible refine Calls.mono K1.out ?_)
      rintro ee w1 ⟨rfl, hb1⟩
      go_wp2_with fail
      (with_reducible refine Calls.mono (binds_number _) ?_)
      rintro ee w2 ⟨rfl, hb2⟩
      have hb3 := hb1.trans (hb2.mono hb1.size)
      go_wp2
      go_meet
      refine ⟨?_, hb3⟩
      rw [HBL.out]
      show Value.bool _ = Value.bool (decide (least ≤ 6))
      congr 1
      rw [Bool.eq_iff_iff]; simp; omega
    · have K1 := Lib.hid (KO _ HBA.out)
      clear KO
      have e1 : kindV 2 = .iface 94 (.agg #[]) := rfl
      rw [e1] at K1
      clear e1
      go_wp2_with fail
      (with_reducible refine Calls.mono K1.out ?_)
      rintro ee w1 ⟨rfl, hb1⟩
      go_wp2_with fail
      (with_reducible refine Calls.mono (binds_variable _) ?_)
      rintro ee w2 ⟨rfl, hb2⟩
      have hb3 := hb1.trans (hb2.mono hb1.size)
      go_wp2
      go_meet
      refine ⟨?_, hb3⟩
      rw [HBL.out]
      show Value.bool _ = Value.bool (decide (least ≤ 6))
      congr 1
      rw [Bool.eq_iff_iff]; simp; omega
    · have K1 := Lib.hid (KO _ HBA.out)
      clear KO
      have e1 : kindV 13 = .iface 102 (.agg #[]) := rfl
      rw [e1] at K1
      clear e1
      go_wp2_with fail
      (with_reducible refine Calls.mono K1.out ?_)
      rintro ee w1 ⟨rfl, hb1⟩
      go_wp2_with fail
      (with_reducible refine Calls.mono (binds_call _) ?_)
      rintro ee w2 ⟨rfl, hb2⟩
      have hb3 := hb1.trans (hb2.mono hb1.size)
      go_wp2
      go_meet
      refine ⟨?_, hb3⟩
      rw [HBL.out]
      show Value.bool _ = Value.bool (decide (least ≤ 6))
      congr 1
      rw [Bool.eq_iff_iff]; simp; omega
    · have K0 := KO _ HBA.out
      rw [kindV_un ho] at K0
      have K1 := Lib.hid K0
      have HO := Lib.hid ho
      clear KO K0 ho
      generalize lvl op = lv at *
      go_wp2_with fail
      (with_reducible refine Calls.mono K1.out ?_)
      rintro ee w1 ⟨rfl, hb1⟩
      go_wp2_with fail
      rw [take_signed]
      (with_reducible refine Calls.mono (binds_signed _ _ _ _) ?_)
      rintro ee w2 ⟨rfl, hb2⟩
      have hb3 := hb1.trans (hb2.mono hb1.size)
      go_wp2
      go_meet
      exact ⟨by rw [HBL.out], hb3⟩
    · have K0 := KO _ HBA.out
      rw [kindV_bin ho] at K0
      have K1 := Lib.hid K0
      have HO := Lib.hid ho
      clear KO K0 ho
      generalize lvl op = lv at *
      go_wp2_with fail
      (with_reducible refine Calls.mono K1.out ?_)
      rintro ee w1 ⟨rfl, hb1⟩
      go_wp2_with fail
      rw [take_signed]
      (with_reducible refine Calls.mono (binds_signed _ _ _ _) ?_)
      rintro ee w2 ⟨rfl, hb2⟩
      have hb3 := hb1.trans (hb2.mono hb1.size)
      go_wp2
      go_meet
      exact ⟨by rw [HBL.out], hb3⟩
  case rest =>
    obtain ⟨rfl, hb1⟩ := hcut
    obtain ⟨k0, k1, k2, k3⟩ := HB4.out.below hb1 hlt
    have hwl : w.heap.size ≤ wc.heap.size := Nat.le_trans (Nat.le_of_lt hlt) hb1.size
    have hbw : Below w.heap.size w wc := hb.trans (hb1.mono (Nat.le_of_lt hlt))
    have HWc := Lib.hid (HW1.out.below hb1)
    have hltc : w.heap.size < wc.heap.size := Nat.lt_of_lt_of_le hlt hb1.size
    have hbb : Below base w wc := hbw.mono hbs
    have HP0 := Lib.hid (Put.of_below (v := .slice A1 l.length cap1) hbw hbs)
    cases bl
    · have HL1 := Lib.hid (HL.out.trans (if_pos (by have := of_decide_eq_false HBL.out.symm; omega)))
      clear HL HBL HW1 hb hb1 c0 c1 c2 c3 KO
      obtain ⟨wx, rfl⟩ : ∃ wx : World, wx = wc := ⟨_, rfl⟩
      have hbz : base ≤ wx.heap.size := Nat.le_trans hbs hwl
      have hbzd : base ≤ wx.drew.heap.size := hbz
      have HWd := Lib.hid (show WRow wx.drew base (.slice A1 l.length cap1) l from HWc.out)
      have HBD := Lib.hid hbb.drew
      have K1 := Lib.hid (show ∀ v1 w1, Put base (.slice A1 l.length cap1) v1 wx.drew w1 → Bx4 w1 w.heap.size (.int .i64 op) (.int .i64 n) (.string s) (.slice A ks.length cap) from fun v1 w1 HQ => Bx4.put (w := wx.drew) ⟨k0, k1, k2, k3⟩ HQ hltc HF.out)
      have K2 := Lib.hid (show ∀ v1 v2 w1 w2, Put base (.slice A1 l.length cap1) v1 wx.drew w1 → Put base v1 v2 w1 w2 → Bx4 w1 w.heap.size (.int .i64 op) (.int .i64 n) (.string s) (.slice A ks.length cap) → Bx4 w2 w.heap.size (.int .i64 op) (.int .i64 n) (.string s) (.slice A ks.length cap) from
        fun v1 v2 w1 w2 h1 h2 hx => hx.put h2 (Nat.lt_of_lt_of_le hltc h1.below.size) (h1.ne hltc HF.out))
      have K3 := Lib.hid (show ∀ v1 v2 v3 w1 w2 w3, Put base (.slice A1 l.length cap1) v1 wx.drew w1 → Put base v1 v2 w1 w2 → Put base v2 v3 w2 w3 → Bx4 w2 w.heap.size (.int .i64 op) (.int .i64 n) (.string s) (.slice A ks.length cap) → Bx4 w3 w.heap.size (.int .i64 op) (.int .i64 n) (.string s) (.slice A ks.length cap) from
        fun v1 v2 v3 w1 w2 w3 h1 h2 h3 hx => hx.put h3 (Nat.lt_of_lt_of_le hltc (h1.below.trans h2.below).size) (h2.ne (Nat.lt_of_lt_of_le hltc h1.below.size) (h1.ne hltc HF.out)))
      have KE := fun v1 w1 (h0 : WRow w1 base v1 (l ++ [(3, ⟨#[40]⟩)])) (h1 : Put base (.slice A1 l.length cap1) v1 wx.drew w1) => HEx w1 v1 _ h0 (HBD.out.trans h1.below) (by rw [List.length_append]; exact Nat.le_refl _)
      have KS := fun v1 v2 w1 w2 (h1 : Put base (.slice A1 l.length cap1) v1 wx.drew w1) (h2 : Put base v1 v2 w1 w2) (h0 : WRow w2 base v2 (l ++ [(3, ⟨#[40]⟩)] ++ we)) => Lib.hid (addSign_any base v2 _ ⟨#[41]⟩ w2 h0 (Nat.le_trans hbzd (h1.below.trans h2.below).size) (by simp only [List.length_append, List.length_cons, List.length_nil]; omega))
      go_wp2
      go_region_held3 (fun u => u.cell? ⟨w.heap.size, 0, none⟩ = some (.int .i64 op) ∧ u.cell? ⟨w.heap.size, 1, none⟩ = some (.int .i64 n) ∧ u.cell? ⟨w.heap.size, 2, none⟩ = some (.string s) ∧ u.cell? ⟨w.heap.size, 3, none⟩ = some (.slice A ks.length cap)) (go_keep)
        (first
          | (go_at_call 74; (with_reducible refine Calls.mono (addSign_any base _ l _ _ HWd.out hbzd (by omega)) ?_); rintro ee w1 ⟨v1, rfl, hW1, hp1⟩; have HW2 := Lib.hid hW1; have HQ1 := Lib.hid hp1; clear hW1 hp1; obtain ⟨g0, g1, g2, g3⟩ := K1.out _ _ HQ1.out)
          | (go_at_call 50; (with_reducible refine Calls.mono (KE _ _ HW2.out HQ1.out).out ?_); rintro ee w2 ⟨v2, rfl, hW3, hp2⟩; have HW4 := Lib.hid hW3; have HQ2 := Lib.hid hp2; clear hW3 hp2; obtain ⟨m0, m1, m2, m3⟩ := K2.out _ _ _ _ HQ1.out HQ2.out ⟨g0, g1, g2, g3⟩)
          | (go_at_call 74; (with_reducible refine Calls.mono (KS _ _ _ _ HQ1.out HQ2.out HW4.out).out ?_); rintro ee w3 ⟨v3, rfl, hW5, hp3⟩; have HW6 := Lib.hid hW5; have HQ3 := Lib.hid hp3; clear hW5 hp3; obtain ⟨p0, p1, p2, p3⟩ := K3.out _ _ _ _ _ _ HQ1.out HQ2.out HQ3.out ⟨m0, m1, m2, m3⟩))
      all_goals
        clear k0 k1 k2 k3 g0 g1 g2 g3 m0 m1 m2 m3 p0 p1 p2 p3
        go_wp2
        go_ret
        refine ⟨_, rfl, ?_, ((HP0.out.trans (Put.of_below (Below.refl _ _).drew hbz)).trans HQ1.out).trans (HQ2.out.trans HQ3.out)⟩
        rw [HL1.out]
        have := HW6.out
        rw [List.append_assoc, List.append_assoc] at this
        exact this
    · have HL1 := Lib.hid (HL.out.trans (if_neg (by have := of_decide_eq_true HBL.out.symm; omega)))
      have HX := Lib.hid (HEx wc _ l HWc.out hbb (by omega)).out
      clear HL HBL HW1 hb hb1 c0 c1 c2 c3 KO HEx
      go_wp2_with fail
      (with_reducible refine Calls.mono HX.out ?_)
      rintro ee w2 ⟨v2, rfl, hW3, hp2⟩
      have HW4 := Lib.hid hW3
      have HQ2 := Lib.hid hp2
      clear hW3 hp2
      go_wp2
      go_ret
      exact ⟨_, rfl, by rw [HL1.out]; exact HW4.out, HP0.out.trans HQ2.out⟩
end Go.Proofs.YtgkfakbbinkbcaaDoor
