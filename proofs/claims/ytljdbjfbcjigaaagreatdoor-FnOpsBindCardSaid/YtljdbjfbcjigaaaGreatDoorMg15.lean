/-
  Texts of expressions: the model's l2Text and ExprText.
-/
import Derived.Test.YtljdbjfbcjigaaaGreatDoorMg10
import Derived.Test.YtljdbjfbcjigaaaGreatDoorMg14
import Derived.OneCell
import Derived.Laws.BytesArg
import Derived.Laws.IdiomStrings
namespace Go.Proofs.YtljdbjfbcjigaaaGreatDoor
open Go.RowKit
set_option maxRecDepth 100000

/-- A number, and new blocks at most. -/
def NumBelow (n : Nat) (w : World) (e : Ending) (w' : World) : Prop := e = .returned (.int .i64 (n : Int)) ∧ Below w.heap.size w w'
set_option maxHeartbeats 1000000 in
theorem l2Parts_step (e : E) (A : Option Addr) (cap : Nat) (w : World) (hR : RdS w w.heap.size e.kids A) (hl : sizeE e ≤ 2000000)
    (ih : ∀ (k : E) (_ : sizeE k < sizeE e) (A : Option Addr) (cap : Nat) (w : World), RdS w w.heap.size k.kids A → Calls Tryz.prog 68 #[exV k A cap] w (NumBelow (sizeE k) w)) :
    Calls Tryz.prog 68 #[exV e A cap] w (NumBelow (sizeE e) w) := by
  unfold exV at ih ⊢
  have IH := Lib.hid ih
  have HR := Lib.hid hR
  clear ih hR
  have hsz := sizeE_kids e
  obtain ⟨op, n, s, ks⟩ := e
  dsimp only [E.op, E.n, E.name, E.kids] at *
  have HS := Lib.hid hsz
  have hll := length_le_sizeL ks
  have hln : sizeL ks ≤ 2000000 := by omega
  clear hsz hl
  obtain ⟨c0, c1, c2, c3, hlt, hb⟩ := box_cells w (.int .i64 op) (.int .i64 n) (.string s) (.slice A ks.length cap) 28
  clear c0 c1 c2
  go_enter Tryz.func68, Tryz.ntmps68
  go_wp2
  generalize w.alloc (.cells #[.int .i64 op, .int .i64 n, .string s, .slice A ks.length cap] 28) = wa at *
  go_loopw [3, 4] (fun m i wr => ∃ k : Nat, k ≤ ks.length ∧ i = .int .i64 k ∧ m = .int .i64 ((1 + sizeL (ks.take k) : Nat) : Int) ∧ Below wa.heap.size wa wr) (fun _ i _ => ks.length - (intOf i).toNat)
  case atStart => exact ⟨0, Nat.zero_le _, rfl, rfl, Below.refl _ _⟩
  case round =>
    obtain ⟨k, hk, rfl, rfl, hbr⟩ := hrel
    have g3 := (hbr.cell (p := ⟨w.heap.size, 3, none⟩) hlt).trans c3
    have hbw := hb.trans (hbr.mono (Nat.le_of_lt hlt))
    have hbs := hbw.size
    have htk := sizeL_take_le ks k
    by_cases hlk : k < ks.length
    · have HT := Lib.hid (sizeL_take hlk)
      have hsk := sizeL_get hlk
      obtain ⟨b, o, rfl, hB, ⟨d0, d1, d2⟩, A', cap', d3, hr'⟩ := (HR.out.below hbw).at_ hlk
      have hlt2 : sizeE ks[k] < sizeE (E.mk op n s ks) := by rw [HS.out]; omega
      have htk1 := sizeL_take_le ks (k + 1)
      have hd : sizeL (ks.take k) + sizeE ks[k] ≤ 2000000 := by rw [← HT.out]; omega
      generalize hkd : ks[k] = kid at *
      have HK := Lib.hid hkd
      clear hkd htk1
      obtain ⟨op', n', s', ks'⟩ := kid
      dsimp only [E.op, E.n, E.name, E.kids] at d0 d1 d2 d3 hr'
      have IHK := Lib.hid (IH.out (E.mk op' n' s' ks') hlt2 A' cap' _ (hr'.more hbs))
      clear hr' hlt2
      dsimp only [E.op, E.n, E.name, E.kids] at IHK
      generalize sizeE (E.mk op' n' s' ks') = sk at *
      generalize hst : sizeL (ks.take k) = st at *
      go_wp2_with ((go_at_call 68; (with_reducible refine Calls.mono IHK.out ?_); rintro ee w2 ⟨rfl, hb2⟩; have hb3 := hbr.trans (hb2.mono hbr.size)))
      go_roundw
      case rel => exact ⟨k + 1, by omega, by go_num, by rw [HT.out]; go_num, hb3⟩
      case measure => simp only [intOf]; omega
    · obtain rfl : k = ks.length := by omega
      go_wp2
      go_ret
      exact ⟨by rw [HS.out, List.take_length]; rfl, hbw⟩
theorem l2Parts_any : ∀ (N : Nat) (e : E) (_ : sizeE e ≤ N) (A : Option Addr) (cap : Nat) (w : World), RdS w w.heap.size e.kids A → N ≤ 2000000 → Calls Tryz.prog 68 #[exV e A cap] w (NumBelow (sizeE e) w)
  | 0, e, h, _, _, _, _, _ => by have := sizeE_pos e; omega
  | N + 1, e, h, A, cap, w, hR, hN => l2Parts_step e A cap w hR (by omega) (fun k hk A cap w hr => l2Parts_any N k (by omega) A cap w hr (by omega))

/-- A cell of the call's own that holds a number. -/
def OneAt (w : World) (g : Nat) (n : Nat) : Prop := w.heap[g]? = some (.cells #[.int .i64 (n : Int)] 3 (0, 0))
theorem OneAt.lt {w : World} {g n : Nat} (h : OneAt w g n) : g < w.heap.size := lt_of_block h
theorem OneAt.alloc {w : World} {g n : Nat} (h : OneAt w g n) (o : Obj) : OneAt (w.alloc o) g n := by
  unfold OneAt at h ⊢
  rw [heap_alloc_old w o (lt_of_block h)]; exact h
theorem OneAt.set {w : World} {g n : Nat} (h : OneAt w g n) (m : Nat) : OneAt (w.setCell ⟨g, 0, none⟩ (.int .i64 (m : Int))) g m := one_setCell h
/-- What counting leaves: one more for each part. -/
def CountRet (g n m : Nat) (w : World) (e : Ending) (w' : World) : Prop := e = .returned (.tuple #[]) ∧ OneAt w' g (n + m) ∧ Touch g w w'
def countF (g : Nat) : Value := .func (.func 105) #[] #[.pointer (some ⟨g, 0, none⟩)]
set_option maxHeartbeats 1000000 in
theorem countOne_any (g n : Nat) (v0 v1 v2 v3 : Value) (w : World) (h : OneAt w g n) (hn : n ≤ 2000000) :
    Calls Tryz.prog 105 #[.agg #[v0, v1, v2, v3], .pointer (some ⟨g, 0, none⟩)] w (CountRet g n 1 w) :=
  (countOne g n v0 v1 v2 v3 w (cell_of_one h) (free_of_one h) (by omega) (by omega) h.lt).mono fun e w' ⟨he, hw⟩ => by
    subst hw
    have hc : ((n : Int) + 1) = ((n + 1 : Nat) : Int) := by omega
    rw [hc]
    have hb1 := (Below.refl g w).setCell (p := ⟨g, 0, none⟩) (Nat.le_refl _) (.int .i64 ((n + 1 : Nat) : Int))
    refine ⟨he, (h.set (n + 1)).alloc _, hb1.alloc (Nat.le_trans (Nat.le_of_lt h.lt) hb1.size) _, fun k h1 h2 => ?_⟩
    rw [heap_alloc_old _ _ (Nat.lt_of_lt_of_le h2 hb1.size)]
    show (w.heap.modify g _)[k]? = _
    rw [Array.getElem?_modify]
    rw [if_neg (by omega)]
set_option maxHeartbeats 2000000 in
theorem eachPart_step (g n : Nat) (e : E) (A : Option Addr) (cap : Nat) (w : World) (hR : RdS w g e.kids A) (h1 : OneAt w g n) (hl : n + sizeE e ≤ 2000000)
    (ih : ∀ (k : E) (_ : sizeE k < sizeE e) (n : Nat) (A : Option Addr) (cap : Nat) (w : World), RdS w g k.kids A → OneAt w g n → n + sizeE k ≤ 2000000 → Calls Tryz.prog 104 #[exV k A cap, countF g] w (CountRet g n (sizeE k) w)) :
    Calls Tryz.prog 104 #[exV e A cap, countF g] w (CountRet g n (sizeE e) w) := by
  unfold exV countF at ih ⊢
  have IH := Lib.hid ih
  have HR := Lib.hid hR
  clear ih hR
  have hsz := sizeE_kids e
  obtain ⟨op, nn, s, ks⟩ := e
  dsimp only [E.op, E.n, E.name, E.kids] at *
  have HS := Lib.hid hsz
  have hll := length_le_sizeL ks
  have hln : n + (1 + sizeL ks) ≤ 2000000 := by omega
  clear hsz hl
  obtain ⟨c0, c1, c2, c3, hlt, hb⟩ := box_cells w (.int .i64 op) (.int .i64 nn) (.string s) (.slice A ks.length cap) 28
  have hgl := h1.lt
  have H1 := Lib.hid (h1.alloc (.cells #[.int .i64 op, .int .i64 nn, .string s, .slice A ks.length cap] 28))
  clear h1
  go_enter Tryz.func104, Tryz.ntmps104
  go_wp2_with fail
  generalize w.alloc (.cells #[.int .i64 op, .int .i64 nn, .string s, .slice A ks.length cap] 28) = wa at *
  go_at_call 105
  refine Calls.mono (countOne_any g n _ _ _ _ wa H1.out (by omega)) ?_
  rintro ee w1 ⟨rfl, h1, hb1⟩
  have d3 := (hb1.cell (k := w.heap.size) (o := 3) (by omega) hlt).trans c3
  have hbq : Touch g w w1 := (Touch.of_below hb hgl).trans hb1
  go_wp2
  go_loopw [12] (fun i wr => ∃ k : Nat, k ≤ ks.length ∧ i = .int .i64 k ∧ OneAt wr g (n + 1 + sizeL (ks.take k)) ∧ Touch g w wr) (fun i _ => ks.length - (intOf i).toNat)
  case atStart => exact ⟨0, Nat.zero_le _, rfl, h1, hbq⟩
  case round =>
    clear d3 hbq h1 hb1
    obtain ⟨k, hk, rfl, hone, hbr⟩ := hrel
    have hbw := hbr.below
    have hbs := hbw.size
    have htk := sizeL_take_le ks k
    by_cases hlk : k < ks.length
    · have HT := Lib.hid (sizeL_take hlk)
      have hsk := sizeL_get hlk
      obtain ⟨b, o, rfl, hB, ⟨d0, d1, d2⟩, A', cap', d3, hr'⟩ := (HR.out.below hbw).at_ hlk
      have hlt2 : sizeE ks[k] < sizeE (E.mk op nn s ks) := by rw [HS.out]; omega
      have htk1 := sizeL_take_le ks (k + 1)
      have hd : n + 1 + sizeL (ks.take k) + sizeE ks[k] ≤ 2000000 := by have := HT.out; omega
      generalize hkd : ks[k] = kid at *
      have HK := Lib.hid hkd
      clear hkd htk1
      obtain ⟨op', n', s', ks'⟩ := kid
      dsimp only [E.op, E.n, E.name, E.kids] at d0 d1 d2 d3 hr'
      have hal := (Below.refl wr.heap.size wr).alloc (Nat.le_refl _) (.cells #[.int .i64 op', .int .i64 n', .string s', .slice A' ks'.length cap'] 28)
      have hal2 : Touch g wr _ := Touch.of_below hal hone.lt
      have IHK := Lib.hid (IH.out (E.mk op' n' s' ks') hlt2 _ A' cap' _ (hr'.below (hal.mono (Nat.le_of_lt hone.lt))) (hone.alloc (.cells #[.int .i64 op', .int .i64 n', .string s', .slice A' ks'.length cap'] 28)) hd)
      clear hr' hlt2 hone
      dsimp only [E.op, E.n, E.name, E.kids] at IHK
      generalize sizeE (E.mk op' n' s' ks') = sk at *
      generalize hst : sizeL (ks.take k) = st at *
      go_wp2_with ((go_at_call 104; (with_reducible refine Calls.mono IHK.out ?_); rintro ee w2 ⟨rfl, ho2, hb2⟩; have hb3 := (hbr.trans hal2).trans hb2; have HO2 := Lib.hid ho2; clear ho2 hb2 hal hal2))
      go_roundw
      case rel => exact ⟨k + 1, by omega, by go_num, by rw [HT.out, ← Nat.add_assoc]; exact HO2.out, hb3⟩
      case measure => simp only [intOf]; omega
    · obtain rfl : k = ks.length := by omega
      have HO := Lib.hid hone
      clear hone
      go_wp2
      go_end0
      refine ⟨rfl, ?_, hbr⟩
      have := HO.out
      rw [List.take_length] at this
      rw [HS.out, ← Nat.add_assoc]
      exact this
theorem eachPart_count : ∀ (N : Nat) (g n : Nat) (e : E) (_ : sizeE e ≤ N) (A : Option Addr) (cap : Nat) (w : World), RdS w g e.kids A → OneAt w g n → n + sizeE e ≤ 2000000 → Calls Tryz.prog 104 #[exV e A cap, countF g] w (CountRet g n (sizeE e) w)
  | 0, _, _, e, h, _, _, _, _, _, _ => by have := sizeE_pos e; omega
  | N + 1, g, n, e, h, A, cap, w, hR, h1, hl => eachPart_step g n e A cap w hR h1 hl (fun k hk n A cap w hr h1 hl => eachPart_count N g n k (by omega) A cap w hr h1 hl)
set_option maxHeartbeats 1000000 in
theorem countParts_any (e : E) (A : Option Addr) (cap : Nat) (w : World) (hR : RdS w w.heap.size e.kids A) (hl : sizeE e ≤ 2000000) :
    Calls Tryz.prog 66 #[exV e A cap] w (NumBelow (sizeE e) w) := by
  obtain ⟨c0, c1, c2, c3, hlt, hb⟩ := box_cells w (.int .i64 e.op) (.int .i64 e.n) (.string e.name) (.slice A e.kids.length cap) 28
  have EP := fun W (h : Below w.heap.size w W) (g : Nat) (hg : w.heap.size ≤ g) (h1 : OneAt W g 0) => Lib.hid (eachPart_count _ g 0 e (Nat.le_refl _) A cap W ((hR.below h).more hg) h1 (by omega))
  unfold exV countF at EP
  unfold exV
  generalize sizeE e = sz at *
  have hone : OneAt ((w.alloc (.cells #[.int .i64 e.op, .int .i64 e.n, .string e.name, .slice A e.kids.length cap] 28)).alloc (.cells #[.int .i64 0] 3)) (w.alloc (.cells #[.int .i64 e.op, .int .i64 e.n, .string e.name, .slice A e.kids.length cap] 28)).heap.size 0 := heap_alloc_new _ _
  have hb1 := hb.alloc (Nat.le_of_lt hlt) (.cells #[.int .i64 0] 3)
  have EP1 := Lib.hid (EP _ hb1 _ (Nat.le_of_lt hlt) hone).out
  rw [World.size_alloc] at EP1
  have hx : w.heap.size ≤ w.heap.size + 1 := by omega
  clear EP hR hone
  go_enter Tryz.func66, Tryz.ntmps66
  go_wp2_with fail
  (with_reducible refine Calls.mono EP1.out ?_)
  rintro ee w1 ⟨rfl, h1, hb2⟩
  have hc := cell_of_one h1
  rw [Nat.zero_add] at hc
  have hb3 := hb1.trans (hb2.below.mono hx)
  go_wp2
  go_ret
  exact ⟨rfl, hb3⟩
set_option maxHeartbeats 1000000 in
theorem specExprValid_any (e : E) (A : Option Addr) (cap : Nat) (w : World) (hR : RdS w w.heap.size e.kids A) (hl : bulkE e ≤ 1048576) :
    Calls Tryz.prog 30 #[exV e A cap] w (BoolB (validE e) w) := by
  have hsb := sizeE_bulk e
  obtain ⟨c0, c1, c2, c3, hlt, hb⟩ := box_cells w (.int .i64 e.op) (.int .i64 e.n) (.string e.name) (.slice A e.kids.length cap) 28
  have hr1 := (hR.below hb).more hb.size
  have CF := l2Form_any 6 (by omega) e A cap _ hr1 (by omega)
  have CP := fun W (h : Below w.heap.size w W) => Lib.hid (l2Parts_any _ e (Nat.le_refl _) A cap W ((hR.below h).more h.size) (by omega))
  have HV := Lib.hid (show validE e = (formE 6 e && decide (sizeE e ≤ 30)) from rfl)
  unfold exV at CF CP ⊢
  clear hR hr1
  generalize validE e = vv at *
  cases hf : formE 6 e
  · rw [hf] at CF
    have HF := Lib.hid hf
    clear hf CP
    replace CF := Lib.hid CF
    go_enter Tryz.func30, Tryz.ntmps30
    go_wp2_with ((go_at_call 67; (with_reducible refine Calls.mono CF.out ?_); rintro ee w1 ⟨rfl, hb1⟩; have hb2 := hb.trans (hb1.mono (Nat.le_of_lt hlt))))
    go_ret
    exact ⟨ret_bool (by rw [HV.out, HF.out]; rfl), hb2⟩
  · rw [hf] at CF
    have HF := Lib.hid hf
    clear hf
    replace CF := Lib.hid CF
    generalize sizeE e = sz at *
    go_enter Tryz.func30, Tryz.ntmps30
    go_wp2_with fail
    (with_reducible refine Calls.mono CF.out ?_)
    rintro ee w1 ⟨rfl, hb1⟩
    have k0 := (hb1.cell (p := ⟨w.heap.size, 0, none⟩) hlt).trans c0
    have k1 := (hb1.cell (p := ⟨w.heap.size, 1, none⟩) hlt).trans c1
    have k2 := (hb1.cell (p := ⟨w.heap.size, 2, none⟩) hlt).trans c2
    have k3 := (hb1.cell (p := ⟨w.heap.size, 3, none⟩) hlt).trans c3
    have hb2 := hb.trans (hb1.mono (Nat.le_of_lt hlt))
    have CP1 := Lib.hid (CP _ hb2).out
    clear CP CF hb hb1
    go_wp2_with fail
    (with_reducible refine Calls.mono CP1.out ?_)
    rintro ee w3 ⟨rfl, hb4⟩
    have hb5 := hb2.trans (hb4.mono hb2.size)
    go_wp2
    go_ret
    exact ⟨ret_bool (by rw [HV.out, HF.out, Bool.true_and, Bool.eq_iff_iff]; simp <;> omega), hb5⟩
set_option maxHeartbeats 1000000 in
theorem implExprValid_any (e : E) (A : Option Addr) (cap : Nat) (w : World) (hR : RdS w w.heap.size e.kids A) (hl : bulkE e ≤ 1048576) (T : Tabs w) (G : Sgn w) :
    Calls Tryz.prog 29 #[exV e A cap] w (BoolB (validE e) w) := by
  have hsb := sizeE_bulk e
  obtain ⟨c0, c1, c2, c3, hlt, hb⟩ := box_cells w (.int .i64 e.op) (.int .i64 e.n) (.string e.name) (.slice A e.kids.length cap) 28
  have hr1 := (hR.below hb).more hb.size
  have CF := fitsWithin_any 6 (by omega) e A cap _ hr1 (T.below hb) (G.below hb) (by omega)
  have CP := fun W (h : Below w.heap.size w W) => Lib.hid (countParts_any e A cap W ((hR.below h).more h.size) (by omega))
  have HV := Lib.hid (show validE e = (formE 6 e && decide (sizeE e ≤ 30)) from rfl)
  unfold exV at CF CP ⊢
  clear hR hr1
  generalize validE e = vv at *
  cases hf : formE 6 e
  · rw [hf] at CF
    have HF := Lib.hid hf
    clear hf CP
    replace CF := Lib.hid CF
    go_enter Tryz.func29, Tryz.ntmps29
    go_wp2_with ((go_at_call 65; (with_reducible refine Calls.mono CF.out ?_); rintro ee w1 ⟨rfl, hb1⟩; have hb2 := hb.trans (hb1.mono (Nat.le_of_lt hlt))))
    go_ret
    exact ⟨ret_bool (by rw [HV.out, HF.out]; rfl), hb2⟩
  · rw [hf] at CF
    have HF := Lib.hid hf
    clear hf
    replace CF := Lib.hid CF
    generalize sizeE e = sz at *
    go_enter Tryz.func29, Tryz.ntmps29
    go_wp2_with fail
    (with_reducible refine Calls.mono CF.out ?_)
    rintro ee w1 ⟨rfl, hb1⟩
    have k0 := (hb1.cell (p := ⟨w.heap.size, 0, none⟩) hlt).trans c0
    have k1 := (hb1.cell (p := ⟨w.heap.size, 1, none⟩) hlt).trans c1
    have k2 := (hb1.cell (p := ⟨w.heap.size, 2, none⟩) hlt).trans c2
    have k3 := (hb1.cell (p := ⟨w.heap.size, 3, none⟩) hlt).trans c3
    have hb2 := hb.trans (hb1.mono (Nat.le_of_lt hlt))
    have CP1 := Lib.hid (CP _ hb2).out
    clear CP CF hb hb1
    go_wp2_with fail
    (with_reducible refine Calls.mono CP1.out ?_)
    rintro ee w3 ⟨rfl, hb4⟩
    have hb5 := hb2.trans (hb4.mono hb2.size)
    go_wp2
    go_ret
    exact ⟨ret_bool (by rw [HV.out, HF.out, Bool.true_and, Bool.eq_iff_iff]; simp <;> omega), hb5⟩
end Go.Proofs.YtljdbjfbcjigaaaGreatDoor

namespace Go.Proofs.YtljdbjfbcjigaaaGreatDoor
open Go.RowKit
set_option maxRecDepth 100000

set_option maxHeartbeats 1000000 in
theorem l2Level_any (op : Int) (w : World) :
    Calls Tryz.prog 101 #[.int .i64 op] w fun e w' => e = .returned (.int .i64 (lvl op : Int)) ∧ w = w' := by
  by_cases h : 3 ≤ op ∧ op ≤ 12
  · have : op = 3 ∨ op = 4 ∨ op = 5 ∨ op = 6 ∨ op = 7 ∨ op = 8 ∨ op = 9 ∨ op = 10 ∨ op = 11 ∨ op = 12 := by omega
    rcases this with rfl | rfl | rfl | rfl | rfl | rfl | rfl | rfl | rfl | rfl
    all_goals
      clear h
      go_enter Tryz.func101, Tryz.ntmps101
      go_wp2
      go_ret
      exact ⟨rfl, rfl⟩
  · have e1 : lvl op = 6 := by unfold lvl; rw [if_neg (by omega), if_neg (by omega), if_neg (by omega), if_neg (by omega), if_neg (by omega)]
    rw [e1]
    have b3 : (op == 3) = false := beq_no (by omega)
    have b4 : (op == 4) = false := beq_no (by omega)
    have b5 : (op == 5) = false := beq_no (by omega)
    have b6 : (op == 6) = false := beq_no (by omega)
    have b7 : (op == 7) = false := beq_no (by omega)
    have b8 : (op == 8) = false := beq_no (by omega)
    have b9 : (op == 9) = false := beq_no (by omega)
    have b10 : (op == 10) = false := beq_no (by omega)
    have b11 : (op == 11) = false := beq_no (by omega)
    have b12 : (op == 12) = false := beq_no (by omega)
    clear h e1
    go_enter Tryz.func101, Tryz.ntmps101
    go_wp2
    go_ret
    exact ⟨rfl, rfl⟩
set_option maxHeartbeats 1000000 in
theorem l2Sign_any (op : Int) (w : World) (h : 3 ≤ op ∧ op ≤ 12) :
    Calls Tryz.prog 103 #[.int .i64 op] w fun e w' => e = .returned (.string (sgnS op)) ∧ w = w' := by
  have hi := inB_yes (lo := 3) (x := op) (hi := 12) h
  have : op = 3 ∨ op = 4 ∨ op = 5 ∨ op = 6 ∨ op = 7 ∨ op = 8 ∨ op = 9 ∨ op = 10 ∨ op = 11 ∨ op = 12 := by omega
  clear h
  rcases this with rfl | rfl | rfl | rfl | rfl | rfl | rfl | rfl | rfl | rfl
  all_goals
    replace hi := Lib.hid hi
    go_enter Tryz.func103, Tryz.ntmps103
    go_wp2_with fail
    refine Calls.mono (l1In_b _ _ _ _) ?_
    rintro ee w1 ⟨rfl, rfl⟩
    rw [hi.out]
    go_wp2
    go_ret
    exact ⟨rfl, rfl⟩

theorem byte_cell (W : World) (x : Int) : (convert 50 9 (.slice (some ⟨W.heap.size, 0, none⟩) 1 1)).run Tryz.prog (W.alloc (.cells #[.int .u8 x] 5 (0, 0))) = .ok (.string ⟨#[UInt8.ofNat x.toNat]⟩) (W.alloc (.cells #[.int .u8 x] 5 (0, 0))) := conv_one W x
/-- Behind some rounds: the digits that are written stand behind those of what is left. -/
def decRel (n k : Nat) (out : ByteArray) : Prop := Lib.decDigits n = Lib.decDigits k ++ out.data.toList
theorem decRel_succ {n k : Nat} {out : ByteArray} (h : decRel n k out) (hk : 9 < k) : decRel n (k / 10) ((⟨#[UInt8.ofNat (48 + k % 10)]⟩ : ByteArray) ++ out) := by
  unfold decRel at h ⊢
  rw [h, decDigits_step (by omega : 0 < k), if_neg (by omega)]
  simp
theorem decRel_end {n k : Nat} {out : ByteArray} (h : decRel n k out) (hk : k ≤ 9) : decS n = (⟨#[UInt8.ofNat (48 + k)]⟩ : ByteArray) ++ out := by
  unfold decRel at h
  unfold decS
  rw [h, Lib.decDigits_one (show k < 10 by omega)]
  have : out = ⟨out.data.toList.toArray⟩ := by cases out; simp
  rw [this]
  rw [show (⟨#[UInt8.ofNat (48 + k)]⟩ : ByteArray) = ByteArray.mk [UInt8.ofNat (48 + k)].toArray from rfl, ByteArray.mk_append_mk]
set_option maxHeartbeats 1000000 in
theorem l30Dec_exact (n : Nat) (w : World) (hn : n ≤ 10000) :
    Calls Tryz.prog 102 #[.int .i64 (n : Int)] w fun e w' => e = .returned (.string (decS n)) ∧ Below w.heap.size w w' := by
  go_enter Tryz.func102, Tryz.ntmps102
  go_wp2
  go_loopw [0, 3] (fun i o wr => ∃ (k : Nat) (out : ByteArray), i = .int .i64 k ∧ o = .string out ∧ k + out.size ≤ n ∧ decRel n k out ∧ Below w.heap.size w wr) (fun i _ _ => (intOf i).toNat)
  case atStart => exact ⟨n, ⟨#[]⟩, rfl, rfl, Nat.le_refl _, by unfold decRel; simp, Below.refl _ _⟩
  case round =>
    obtain ⟨k, out, rfl, rfl, hk, hrel, hb⟩ := hrel
    have HR := Lib.hid hrel
    clear hrel
    by_cases h0 : 9 < k
    · have hcv := byte_cell wr (48 + (k : Int) % 10)
      have hx : ((48 + (k : Int) % 10).toNat) = 48 + k % 10 := by omega
      rw [hx] at hcv
      clear hx
      have HS := Lib.hid (decRel_succ HR.out h0)
      have hlen : ((⟨#[UInt8.ofNat (48 + k % 10)]⟩ : ByteArray)).size = 1 := rfl
      generalize hdd : (⟨#[UInt8.ofNat (48 + k % 10)]⟩ : ByteArray) = dd at *
      clear hdd
      have hd1 : dd.size ≤ 1 := by omega
      have HL := Lib.hid hlen
      clear hlen
      have hb2 := hb.alloc hb.size (.cells #[.int .u8 (48 + (k : Int) % 10)] 5)
      clear hb
      go_wp2
      go_roundw
      case rel => exact ⟨k / 10, _, by go_num, rfl, by rw [ByteArray.size_append]; have := HL.out; omega, HS.out, hb2⟩
      case measure => simp only [intOf]; omega
    · have hcv := byte_cell wr (48 + (k : Int))
      have hx : ((48 + (k : Int)).toNat) = 48 + k := by omega
      rw [hx] at hcv
      clear hx
      have HS := Lib.hid (decRel_end HR.out (by omega))
      have hlen : ((⟨#[UInt8.ofNat (48 + k)]⟩ : ByteArray)).size = 1 := rfl
      generalize hdd : (⟨#[UInt8.ofNat (48 + k)]⟩ : ByteArray) = dd at *
      clear hdd
      have hd1 : dd.size ≤ 1 := by omega
      have HL := Lib.hid hlen
      clear hlen
      have hb2 := hb.alloc hb.size (.cells #[.int .u8 (48 + (k : Int))] 5)
      clear hb
      go_wp2
      go_ret
      exact ⟨by rw [HS.out]; rfl, hb2⟩
end Go.Proofs.YtljdbjfbcjigaaaGreatDoor

namespace Go.Proofs.YtljdbjfbcjigaaaGreatDoor
open Go.RowKit
set_option maxRecDepth 100000

/-- A text, and new blocks at most. -/
def StrB (t : ByteArray) (w : World) (e : Ending) (w' : World) : Prop := e = .returned (.string t) ∧ Below w.heap.size w w'
theorem wE_tx_size {d : Nat} {e : E} (h : formE d e = true) (l : Nat) : (tx (wE e l)).size ≤ 30 * sizeE e := by
  have h1 := tx_size (wE_valid d e h l)
  have h2 := wE_bd d e h l
  omega
theorem need_br {e : E} {need : Nat} (h : lvl e.op < need) (hne : bodyW e.op e.n e.name (wL e.op 0 e.kids) ≠ []) : tx (wE e need) = (⟨#[40, 32]⟩ ++ tx (wE e 0)) ++ ⟨#[32, 41]⟩ := by
  have e0 : wE e 0 = bodyW e.op e.n e.name (wL e.op 0 e.kids) := wE_bare e (by omega)
  rw [e0, ← tx_br hne, wE_eq, decide_eq_true h]
  rfl
theorem need_no {e : E} {need : Nat} (h : ¬ lvl e.op < need) : tx (wE e need) = tx (wE e 0) := by
  rw [wE_bare e (show need ≤ lvl e.op by omega), wE_bare e (show 0 ≤ lvl e.op by omega)]
set_option maxHeartbeats 1000000 in
theorem l2Text_num (m : Nat) (hm : m ≤ 255) (need : Nat) (hn : need ≤ 6) (A : Option Addr) (cap : Nat) (w : World) :
    Calls Tryz.prog 64 #[.agg #[.int .i64 1, .int .i64 (m : Int), .string ⟨#[]⟩, .slice A 0 cap], .int .i64 (need : Int)] w (StrB (tx (wE (numE m) need)) w) := by
  have HT := Lib.hid (show tx (wE (numE m) need) = decS m by rw [wE_num _ hn, tx_one]; rfl)
  generalize tx (wE (numE m) need) = t at *
  obtain ⟨c0, c1, c2, c3, hlt, hb⟩ := box_cells w (.int .i64 1) (.int .i64 (m : Int)) (.string ⟨#[]⟩) (.slice A 0 cap) 28
  go_enter Tryz.func64, Tryz.ntmps64
  go_wp2_with fail
  refine Calls.mono (l2Level_any _ _) ?_
  rintro ee w1 ⟨rfl, rfl⟩
  have e6 : ((lvl 1 : Nat) : Int) = 6 := rfl
  rw [e6]
  clear e6
  go_wp2_with fail
  refine Calls.mono (l30Dec_exact m _ (by omega)) ?_
  rintro ee w1 ⟨rfl, hb1⟩
  have hb2 := hb.trans (hb1.mono (Nat.le_of_lt hlt))
  go_wp2
  go_ret
  exact ⟨by rw [HT.out]; rfl, hb2⟩
set_option maxHeartbeats 1000000 in
theorem l2Text_var (s : ByteArray) (need : Nat) (hn : need ≤ 6) (A : Option Addr) (cap : Nat) (w : World) :
    Calls Tryz.prog 64 #[.agg #[.int .i64 2, .int .i64 0, .string s, .slice A 0 cap], .int .i64 (need : Int)] w (StrB (tx (wE (varE s) need)) w) := by
  have HT := Lib.hid (show tx (wE (varE s) need) = s by rw [wE_var _ hn, tx_one])
  generalize tx (wE (varE s) need) = t at *
  obtain ⟨c0, c1, c2, c3, hlt, hb⟩ := box_cells w (.int .i64 2) (.int .i64 0) (.string s) (.slice A 0 cap) 28
  go_enter Tryz.func64, Tryz.ntmps64
  go_wp2_with fail
  refine Calls.mono (l2Level_any _ _) ?_
  rintro ee w1 ⟨rfl, rfl⟩
  have e6 : ((lvl 2 : Nat) : Int) = 6 := rfl
  rw [e6]
  clear e6
  go_wp2
  go_ret
  exact ⟨by rw [HT.out]; rfl, hb⟩
set_option maxHeartbeats 2000000 in
theorem l2Text_call (d : Nat) (s : ByteArray) (ks : List E) (hs : s.size ≤ 4) (hk : ∀ k ∈ ks, formE d k = true) (need : Nat) (hn : need ≤ 6) (A : Option Addr) (cap : Nat) (w : World) (hR : RdS w w.heap.size ks A) (hl : sizeL ks ≤ 1000000)
    (hsz : ∀ i, i ≤ ks.length → (tx ((1, s) :: (3, lpS) :: callTo ks i)).size ≤ 40000000)
    (ih : ∀ (k : E) (_ : formE d k = true) (need : Nat) (_ : need ≤ 6) (A : Option Addr) (cap : Nat) (w : World), RdS w w.heap.size k.kids A → sizeE k ≤ 1000000 → Calls Tryz.prog 64 #[exV k A cap, .int .i64 (need : Int)] w (StrB (tx (wE k need)) w)) :
    Calls Tryz.prog 64 #[.agg #[.int .i64 13, .int .i64 0, .string s, .slice A ks.length cap], .int .i64 (need : Int)] w (StrB (tx (wE (callE s ks) need)) w) := by
  unfold exV at ih
  have IH := Lib.hid ih
  have HR := Lib.hid hR
  have HK := Lib.hid hk
  have HSZ := Lib.hid hsz
  clear ih hR hk hsz
  have hll := length_le_sizeL ks
  have HT := Lib.hid (show tx (wE (callE s ks) need) = tx ((1, s) :: (3, lpS) :: callTo ks ks.length) ++ ⟨#[32, 41]⟩ by
    rw [wE_call _ _ hn, ← tx_end (by simp), callTo_end]; rfl)
  generalize tx (wE (callE s ks) need) = t at *
  obtain ⟨c0, c1, c2, c3, hlt, hb⟩ := box_cells w (.int .i64 13) (.int .i64 0) (.string s) (.slice A ks.length cap) 28
  go_enter Tryz.func64, Tryz.ntmps64
  go_wp2_with fail
  refine Calls.mono (l2Level_any _ _) ?_
  rintro ee w1 ⟨rfl, rfl⟩
  have e6 : ((lvl 13 : Nat) : Int) = 6 := rfl
  rw [e6]
  clear e6
  generalize w.alloc (.cells #[.int .i64 13, .int .i64 0, .string s, .slice A ks.length cap] 28) = wa at *
  go_wp2
  go_loopw [6, 7] (fun o i wr => ∃ (k : Nat) (out : ByteArray), k ≤ ks.length ∧ i = .int .i64 k ∧ o = .string out ∧ out = tx ((1, s) :: (3, lpS) :: callTo ks k) ∧ Below wa.heap.size wa wr) (fun _ i _ => ks.length - (intOf i).toNat)
  case atStart => exact ⟨0, _, Nat.zero_le _, rfl, rfl, by rw [callTo_zero, tx_call0], Below.refl _ _⟩
  case round =>
    obtain ⟨k, out, hk, rfl, rfl, ho, hbr⟩ := hrel
    have g3 := (hbr.cell (p := ⟨w.heap.size, 3, none⟩) hlt).trans c3
    have hbw := hb.trans (hbr.mono (Nat.le_of_lt hlt))
    have hbs := hbw.size
    have hos : out.size ≤ 40000000 := by rw [ho]; exact HSZ.out k hk
    have HO := Lib.hid ho
    clear ho
    by_cases hlk : k < ks.length
    · have hsk := sizeL_get hlk
      have hfk := HK.out _ (List.getElem_mem hlk)
      obtain ⟨b, o, rfl, hB, ⟨d0, d1, d2⟩, A', cap', d3, hr'⟩ := (HR.out.below hbw).at_ hlk
      have hts := wE_tx_size hfk 1
      have hne := (head_ok d _ hfk 1 []).2
      have IHK0 := IH.out ks[k] hfk 1 (by omega) A' cap' _ (hr'.more hbs) (by omega)
      have HN : tx ((1, s) :: (3, lpS) :: callTo ks (k + 1)) = if k = 0 then (out ++ ⟨#[32]⟩) ++ tx (wE ks[k] 1) else ((out ++ ⟨#[32, 44]⟩) ++ ⟨#[32]⟩) ++ tx (wE ks[k] 1) := by
        by_cases h0 : k = 0
        · subst h0
          rw [if_pos rfl, HO.out, callTo_zero, ← tx_first (by simp) hne, callTo_first hlk]; rfl
        · rw [if_neg h0, HO.out, ← tx_next (by simp) hne, callTo_next hlk (by omega)]; rfl
      have HN := Lib.hid HN
      clear hfk hr' hne
      generalize tx (wE ks[k] 1) = tk at *
      generalize hkd : ks[k] = kid at *
      have hts2 : tk.size ≤ 30000000 := by omega
      clear hkd
      obtain ⟨op', n', s', ks'⟩ := kid
      dsimp only [E.op, E.n, E.name, E.kids] at d0 d1 d2 d3 IHK0
      have IHK := Lib.hid IHK0
      clear IHK0
      by_cases h0 : k = 0
      · have hk0 : k ≤ 0 := by omega
        have HH := Lib.hid h0
        clear h0
        go_wp2_with ((go_at_call 64; (with_reducible refine Calls.mono IHK.out ?_); rintro ee w2 ⟨rfl, hb2⟩; have hb3 := hbr.trans (hb2.mono hbr.size)))
        go_roundw
        case rel => exact ⟨k + 1, _, by omega, by go_num, rfl, by rw [HN.out, if_pos HH.out], hb3⟩
        case measure => simp only [intOf]; omega
      · have hk0 : 0 < k := by omega
        have HH := Lib.hid h0
        clear h0
        go_wp2_with ((go_at_call 64; (with_reducible refine Calls.mono IHK.out ?_); rintro ee w2 ⟨rfl, hb2⟩; have hb3 := hbr.trans (hb2.mono hbr.size)))
        go_roundw
        case rel => exact ⟨k + 1, _, by omega, by go_num, rfl, by rw [HN.out, if_neg HH.out], hb3⟩
        case measure => simp only [intOf]; omega
    · obtain rfl : k = ks.length := by omega
      go_wp2
      go_ret
      exact ⟨by rw [HT.out, ← HO.out]; rfl, hbw⟩
end Go.Proofs.YtljdbjfbcjigaaaGreatDoor
