/-
  Drawn expressions.
-/
import Derived.Test.YtkhcfhhejmkikaaGreatDoorMg6
import Derived.OneCell
import Derived.Deep.RegionHeld3
namespace Go.Proofs.YtkhcfhhejmkikaaGreatDoor
open Go.RowKit
set_option maxRecDepth 100000

/-- A number, and new blocks at most. -/
def NumBelow (n : Nat) (w : World) (e : Ending) (w' : World) : Prop := e = .returned (.int .i64 (n : Int)) ∧ Below w.heap.size w w'
set_option maxHeartbeats 1000000 in
theorem l2Parts_step (e : E) (A : Option Addr) (cap : Nat) (w : World) (hR : RdS w w.heap.size e.kids A) (hl : sizeE e ≤ 2000000)
    (ih : ∀ (k : E) (_ : sizeE k < sizeE e) (A : Option Addr) (cap : Nat) (w : World), RdS w w.heap.size k.kids A → Calls Tryz.prog 40 #[exV k A cap] w (NumBelow (sizeE k) w)) :
    Calls Tryz.prog 40 #[exV e A cap] w (NumBelow (sizeE e) w) := by
  unfold exV at ih ⊢
  have IH := Lib.hid ih
  have HR := Lib.hid hR
  clear ih hR
  have hsz := sizeE_kids e
  obtain ⟨op, n, s, ks⟩ := e
  dsimp only [E.op, E.n, E.name, E.kids] at *
  have HS := Lib.hid hsz
  have hll := length_le_sizeL ks
  have hln : sizeL ks ≤ 2000000 := by omega
  clear hsz hl
  obtain ⟨c0, c1, c2, c3, hlt, hb⟩ := box_cells w (.int .i64 op) (.int .i64 n) (.string s) (.slice A ks.length cap) 24
  clear c0 c1 c2
  go_enter Tryz.func40, Tryz.ntmps40
  go_wp2
  generalize w.alloc (.cells #[.int .i64 op, .int .i64 n, .string s, .slice A ks.length cap] 24) = wa at *
  go_loopw [3, 4] (fun m i wr => ∃ k : Nat, k ≤ ks.length ∧ i = .int .i64 k ∧ m = .int .i64 ((1 + sizeL (ks.take k) : Nat) : Int) ∧ Below wa.heap.size wa wr) (fun _ i _ => ks.length - (intOf i).toNat)
  case atStart => exact ⟨0, Nat.zero_le _, rfl, rfl, Below.refl _ _⟩
  case round =>
    obtain ⟨k, hk, rfl, rfl, hbr⟩ := hrel
    have g3 := (hbr.cell (p := ⟨w.heap.size, 3, none⟩) hlt).trans c3
    have hbw := hb.trans (hbr.mono (Nat.le_of_lt hlt))
    have hbs := hbw.size
    have htk := sizeL_take_le ks k
    by_cases hlk : k < ks.length
    · have HT := Lib.hid (sizeL_take hlk)
      have hsk := sizeL_get hlk
      obtain ⟨b, o, rfl, hB, ⟨d0, d1, d2⟩, A', cap', d3, hr'⟩ := (HR.out.below hbw).at_ hlk
      have hlt2 : sizeE ks[k] < sizeE (E.mk op n s ks) := by rw [HS.out]; omega
      have htk1 := sizeL_take_le ks (k + 1)
      have hd : sizeL (ks.take k) + sizeE ks[k] ≤ 2000000 := by rw [← HT.out]; omega
      generalize hkd : ks[k] = kid at *
      have HK := Lib.hid hkd
      clear hkd htk1
      obtain ⟨op', n', s', ks'⟩ := kid
      dsimp only [E.op, E.n, E.name, E.kids] at d0 d1 d2 d3 hr'
      have IHK := Lib.hid (IH.out (E.mk op' n' s' ks') hlt2 A' cap' _ (hr'.more hbs))
      clear hr' hlt2
      dsimp only [E.op, E.n, E.name, E.kids] at IHK
      generalize sizeE (E.mk op' n' s' ks') = sk at *
      generalize hst : sizeL (ks.take k) = st at *
      go_wp2_with ((go_at_call 40; (with_reducible refine Calls.mono IHK.out ?_); rintro ee w2 ⟨rfl, hb2⟩; have hb3 := hbr.trans (hb2.mono hbr.size)))
      go_roundw
      case rel => exact ⟨k + 1, by omega, by go_num, by rw [HT.out]; go_num, hb3⟩
      case measure => simp only [intOf]; omega
    · obtain rfl : k = ks.length := by omega
      go_wp2
      go_ret
      exact ⟨by rw [HS.out, List.take_length]; rfl, hbw⟩
theorem l2Parts_any : ∀ (N : Nat) (e : E) (_ : sizeE e ≤ N) (A : Option Addr) (cap : Nat) (w : World), RdS w w.heap.size e.kids A → N ≤ 2000000 → Calls Tryz.prog 40 #[exV e A cap] w (NumBelow (sizeE e) w)
  | 0, e, h, _, _, _, _, _ => by have := sizeE_pos e; omega
  | N + 1, e, h, A, cap, w, hR, hN => l2Parts_step e A cap w hR (by omega) (fun k hk A cap w hr => l2Parts_any N k (by omega) A cap w hr (by omega))

/-- A cell of the call's own that holds a number. -/
def OneAt (w : World) (g : Nat) (n : Nat) : Prop := w.heap[g]? = some (.cells #[.int .i64 (n : Int)] 3 (0, 0))
theorem OneAt.lt {w : World} {g n : Nat} (h : OneAt w g n) : g < w.heap.size := lt_of_block h
theorem OneAt.alloc {w : World} {g n : Nat} (h : OneAt w g n) (o : Obj) : OneAt (w.alloc o) g n := by
  unfold OneAt at h ⊢
  rw [heap_alloc_old w o (lt_of_block h)]; exact h
theorem OneAt.set {w : World} {g n : Nat} (h : OneAt w g n) (m : Nat) : OneAt (w.setCell ⟨g, 0, none⟩ (.int .i64 (m : Int))) g m := one_setCell h
/-- What counting leaves: one more for each part. -/
def CountRet (g n m : Nat) (w : World) (e : Ending) (w' : World) : Prop := e = .returned (.tuple #[]) ∧ OneAt w' g (n + m) ∧ Touch g w w'
def countF (g : Nat) : Value := .func (.func 82) #[] #[.pointer (some ⟨g, 0, none⟩)]
set_option maxHeartbeats 1000000 in
theorem countOne_any (g n : Nat) (v0 v1 v2 v3 : Value) (w : World) (h : OneAt w g n) (hn : n ≤ 2000000) :
    Calls Tryz.prog 82 #[.agg #[v0, v1, v2, v3], .pointer (some ⟨g, 0, none⟩)] w (CountRet g n 1 w) :=
  (countOne g n v0 v1 v2 v3 w (cell_of_one h) (free_of_one h) (by omega) (by omega) h.lt).mono fun e w' ⟨he, hw⟩ => by
    subst hw
    have hc : ((n : Int) + 1) = ((n + 1 : Nat) : Int) := by omega
    rw [hc]
    have hb1 := (Below.refl g w).setCell (p := ⟨g, 0, none⟩) (Nat.le_refl _) (.int .i64 ((n + 1 : Nat) : Int))
    refine ⟨he, (h.set (n + 1)).alloc _, hb1.alloc (Nat.le_trans (Nat.le_of_lt h.lt) hb1.size) _, fun k h1 h2 => ?_⟩
    rw [heap_alloc_old _ _ (Nat.lt_of_lt_of_le h2 hb1.size)]
    show (w.heap.modify g _)[k]? = _
    rw [Array.getElem?_modify]
    rw [if_neg (by omega)]
set_option maxHeartbeats 2000000 in
theorem eachPart_step (g n : Nat) (e : E) (A : Option Addr) (cap : Nat) (w : World) (hR : RdS w g e.kids A) (h1 : OneAt w g n) (hl : n + sizeE e ≤ 2000000)
    (ih : ∀ (k : E) (_ : sizeE k < sizeE e) (n : Nat) (A : Option Addr) (cap : Nat) (w : World), RdS w g k.kids A → OneAt w g n → n + sizeE k ≤ 2000000 → Calls Tryz.prog 81 #[exV k A cap, countF g] w (CountRet g n (sizeE k) w)) :
    Calls Tryz.prog 81 #[exV e A cap, countF g] w (CountRet g n (sizeE e) w) := by
  unfold exV countF at ih ⊢
  have IH := Lib.hid ih
  have HR := Lib.hid hR
  clear ih hR
  have hsz := sizeE_kids e
  obtain ⟨op, nn, s, ks⟩ := e
  dsimp only [E.op, E.n, E.name, E.kids] at *
  have HS := Lib.hid hsz
  have hll := length_le_sizeL ks
  have hln : n + (1 + sizeL ks) ≤ 2000000 := by omega
  clear hsz hl
  obtain ⟨c0, c1, c2, c3, hlt, hb⟩ := box_cells w (.int .i64 op) (.int .i64 nn) (.string s) (.slice A ks.length cap) 24
  have hgl := h1.lt
  have H1 := Lib.hid (h1.alloc (.cells #[.int .i64 op, .int .i64 nn, .string s, .slice A ks.length cap] 24))
  clear h1
  go_enter Tryz.func81, Tryz.ntmps81
  go_wp2_with fail
  generalize w.alloc (.cells #[.int .i64 op, .int .i64 nn, .string s, .slice A ks.length cap] 24) = wa at *
  go_at_call 82
  refine Calls.mono (countOne_any g n _ _ _ _ wa H1.out (by omega)) ?_
  rintro ee w1 ⟨rfl, h1, hb1⟩
  have d3 := (hb1.cell (k := w.heap.size) (o := 3) (by omega) hlt).trans c3
  have hbq : Touch g w w1 := (Touch.of_below hb hgl).trans hb1
  go_wp2
  go_loopw [12] (fun i wr => ∃ k : Nat, k ≤ ks.length ∧ i = .int .i64 k ∧ OneAt wr g (n + 1 + sizeL (ks.take k)) ∧ Touch g w wr) (fun i _ => ks.length - (intOf i).toNat)
  case atStart => exact ⟨0, Nat.zero_le _, rfl, h1, hbq⟩
  case round =>
    clear d3 hbq h1 hb1
    obtain ⟨k, hk, rfl, hone, hbr⟩ := hrel
    have hbw := hbr.below
    have hbs := hbw.size
    have htk := sizeL_take_le ks k
    by_cases hlk : k < ks.length
    · have HT := Lib.hid (sizeL_take hlk)
      have hsk := sizeL_get hlk
      obtain ⟨b, o, rfl, hB, ⟨d0, d1, d2⟩, A', cap', d3, hr'⟩ := (HR.out.below hbw).at_ hlk
      have hlt2 : sizeE ks[k] < sizeE (E.mk op nn s ks) := by rw [HS.out]; omega
      have htk1 := sizeL_take_le ks (k + 1)
      have hd : n + 1 + sizeL (ks.take k) + sizeE ks[k] ≤ 2000000 := by have := HT.out; omega
      generalize hkd : ks[k] = kid at *
      have HK := Lib.hid hkd
      clear hkd htk1
      obtain ⟨op', n', s', ks'⟩ := kid
      dsimp only [E.op, E.n, E.name, E.kids] at d0 d1 d2 d3 hr'
      have hal := (Below.refl wr.heap.size wr).alloc (Nat.le_refl _) (.cells #[.int .i64 op', .int .i64 n', .string s', .slice A' ks'.length cap'] 24)
      have hal2 : Touch g wr _ := Touch.of_below hal hone.lt
      have IHK := Lib.hid (IH.out (E.mk op' n' s' ks') hlt2 _ A' cap' _ (hr'.below (hal.mono (Nat.le_of_lt hone.lt))) (hone.alloc (.cells #[.int .i64 op', .int .i64 n', .string s', .slice A' ks'.length cap'] 24)) hd)
      clear hr' hlt2 hone
      dsimp only [E.op, E.n, E.name, E.kids] at IHK
      generalize sizeE (E.mk op' n' s' ks') = sk at *
      generalize hst : sizeL (ks.take k) = st at *
      go_wp2_with ((go_at_call 81; (with_reducible refine Calls.mono IHK.out ?_); rintro ee w2 ⟨rfl, ho2, hb2⟩; have hb3 := (hbr.trans hal2).trans hb2; have HO2 := Lib.hid ho2; clear ho2 hb2 hal hal2))
      go_roundw
      case rel => exact ⟨k + 1, by omega, by go_num, by rw [HT.out, ← Nat.add_assoc]; exact HO2.out, hb3⟩
      case measure => simp only [intOf]; omega
    · obtain rfl : k = ks.length := by omega
      have HO := Lib.hid hone
      clear hone
      go_wp2
      go_end0
      refine ⟨rfl, ?_, hbr⟩
      have := HO.out
      rw [List.take_length] at this
      rw [HS.out, ← Nat.add_assoc]
      exact this
theorem eachPart_count : ∀ (N : Nat) (g n : Nat) (e : E) (_ : sizeE e ≤ N) (A : Option Addr) (cap : Nat) (w : World), RdS w g e.kids A → OneAt w g n → n + sizeE e ≤ 2000000 → Calls Tryz.prog 81 #[exV e A cap, countF g] w (CountRet g n (sizeE e) w)
  | 0, _, _, e, h, _, _, _, _, _, _ => by have := sizeE_pos e; omega
  | N + 1, g, n, e, h, A, cap, w, hR, h1, hl => eachPart_step g n e A cap w hR h1 hl (fun k hk n A cap w hr h1 hl => eachPart_count N g n k (by omega) A cap w hr h1 hl)
set_option maxHeartbeats 1000000 in
theorem countParts_any (e : E) (A : Option Addr) (cap : Nat) (w : World) (hR : RdS w w.heap.size e.kids A) (hl : sizeE e ≤ 2000000) :
    Calls Tryz.prog 45 #[exV e A cap] w (NumBelow (sizeE e) w) := by
  obtain ⟨c0, c1, c2, c3, hlt, hb⟩ := box_cells w (.int .i64 e.op) (.int .i64 e.n) (.string e.name) (.slice A e.kids.length cap) 24
  have EP := fun W (h : Below w.heap.size w W) (g : Nat) (hg : w.heap.size ≤ g) (h1 : OneAt W g 0) => Lib.hid (eachPart_count _ g 0 e (Nat.le_refl _) A cap W ((hR.below h).more hg) h1 (by omega))
  unfold exV countF at EP
  unfold exV
  generalize sizeE e = sz at *
  have hone : OneAt ((w.alloc (.cells #[.int .i64 e.op, .int .i64 e.n, .string e.name, .slice A e.kids.length cap] 24)).alloc (.cells #[.int .i64 0] 3)) (w.alloc (.cells #[.int .i64 e.op, .int .i64 e.n, .string e.name, .slice A e.kids.length cap] 24)).heap.size 0 := heap_alloc_new _ _
  have hb1 := hb.alloc (Nat.le_of_lt hlt) (.cells #[.int .i64 0] 3)
  have EP1 := Lib.hid (EP _ hb1 _ (Nat.le_of_lt hlt) hone).out
  rw [World.size_alloc] at EP1
  have hx : w.heap.size ≤ w.heap.size + 1 := by omega
  clear EP hR hone
  go_enter Tryz.func45, Tryz.ntmps45
  go_wp2_with fail
  (with_reducible refine Calls.mono EP1.out ?_)
  rintro ee w1 ⟨rfl, h1, hb2⟩
  have hc := cell_of_one h1
  rw [Nat.zero_add] at hc
  have hb3 := hb1.trans (hb2.below.mono hx)
  go_wp2
  go_ret
  exact ⟨rfl, hb3⟩
set_option maxHeartbeats 1000000 in
theorem specExprValid_any (e : E) (A : Option Addr) (cap : Nat) (w : World) (hR : RdS w w.heap.size e.kids A) (hl : bulkE e ≤ 1048576) :
    Calls Tryz.prog 17 #[exV e A cap] w (BoolB (validE e) w) := by
  have hsb := sizeE_bulk e
  obtain ⟨c0, c1, c2, c3, hlt, hb⟩ := box_cells w (.int .i64 e.op) (.int .i64 e.n) (.string e.name) (.slice A e.kids.length cap) 24
  have hr1 := (hR.below hb).more hb.size
  have CF := l2Form_any 6 (by omega) e A cap _ hr1 (by omega)
  have CP := fun W (h : Below w.heap.size w W) => Lib.hid (l2Parts_any _ e (Nat.le_refl _) A cap W ((hR.below h).more h.size) (by omega))
  have HV := Lib.hid (show validE e = (formE 6 e && decide (sizeE e ≤ 30)) from rfl)
  unfold exV at CF CP ⊢
  clear hR hr1
  generalize validE e = vv at *
  cases hf : formE 6 e
  · rw [hf] at CF
    have HF := Lib.hid hf
    clear hf CP
    replace CF := Lib.hid CF
    go_enter Tryz.func17, Tryz.ntmps17
    go_wp2_with ((go_at_call 39; (with_reducible refine Calls.mono CF.out ?_); rintro ee w1 ⟨rfl, hb1⟩; have hb2 := hb.trans (hb1.mono (Nat.le_of_lt hlt))))
    go_ret
    exact ⟨ret_bool (by rw [HV.out, HF.out]; rfl), hb2⟩
  · rw [hf] at CF
    have HF := Lib.hid hf
    clear hf
    replace CF := Lib.hid CF
    generalize sizeE e = sz at *
    go_enter Tryz.func17, Tryz.ntmps17
    go_wp2_with fail
    (with_reducible refine Calls.mono CF.out ?_)
    rintro ee w1 ⟨rfl, hb1⟩
    have k0 := (hb1.cell (p := ⟨w.heap.size, 0, none⟩) hlt).trans c0
    have k1 := (hb1.cell (p := ⟨w.heap.size, 1, none⟩) hlt).trans c1
    have k2 := (hb1.cell (p := ⟨w.heap.size, 2, none⟩) hlt).trans c2
    have k3 := (hb1.cell (p := ⟨w.heap.size, 3, none⟩) hlt).trans c3
    have hb2 := hb.trans (hb1.mono (Nat.le_of_lt hlt))
    have CP1 := Lib.hid (CP _ hb2).out
    clear CP CF hb hb1
    go_wp2_with fail
    (with_reducible refine Calls.mono CP1.out ?_)
    rintro ee w3 ⟨rfl, hb4⟩
    have hb5 := hb2.trans (hb4.mono hb2.size)
    go_wp2
    go_ret
    exact ⟨ret_bool (by rw [HV.out, HF.out, Bool.true_and, Bool.eq_iff_iff]; simp <;> omega), hb5⟩
set_option maxHeartbeats 1000000 in
theorem implExprValid_any (e : E) (A : Option Addr) (cap : Nat) (w : World) (hR : RdS w w.heap.size e.kids A) (hl : bulkE e ≤ 1048576) (T : Tabs w) (G : Sgn w) :
    Calls Tryz.prog 20 #[exV e A cap] w (BoolB (validE e) w) := by
  have hsb := sizeE_bulk e
  obtain ⟨c0, c1, c2, c3, hlt, hb⟩ := box_cells w (.int .i64 e.op) (.int .i64 e.n) (.string e.name) (.slice A e.kids.length cap) 24
  have hr1 := (hR.below hb).more hb.size
  have CF := fitsWithin_any 6 (by omega) e A cap _ hr1 (T.below hb) (G.below hb) (by omega)
  have CP := fun W (h : Below w.heap.size w W) => Lib.hid (countParts_any e A cap W ((hR.below h).more h.size) (by omega))
  have HV := Lib.hid (show validE e = (formE 6 e && decide (sizeE e ≤ 30)) from rfl)
  unfold exV at CF CP ⊢
  clear hR hr1
  generalize validE e = vv at *
  cases hf : formE 6 e
  · rw [hf] at CF
    have HF := Lib.hid hf
    clear hf CP
    replace CF := Lib.hid CF
    go_enter Tryz.func20, Tryz.ntmps20
    go_wp2_with ((go_at_call 44; (with_reducible refine Calls.mono CF.out ?_); rintro ee w1 ⟨rfl, hb1⟩; have hb2 := hb.trans (hb1.mono (Nat.le_of_lt hlt))))
    go_ret
    exact ⟨ret_bool (by rw [HV.out, HF.out]; rfl), hb2⟩
  · rw [hf] at CF
    have HF := Lib.hid hf
    clear hf
    replace CF := Lib.hid CF
    generalize sizeE e = sz at *
    go_enter Tryz.func20, Tryz.ntmps20
    go_wp2_with fail
    (with_reducible refine Calls.mono CF.out ?_)
    rintro ee w1 ⟨rfl, hb1⟩
    have k0 := (hb1.cell (p := ⟨w.heap.size, 0, none⟩) hlt).trans c0
    have k1 := (hb1.cell (p := ⟨w.heap.size, 1, none⟩) hlt).trans c1
    have k2 := (hb1.cell (p := ⟨w.heap.size, 2, none⟩) hlt).trans c2
    have k3 := (hb1.cell (p := ⟨w.heap.size, 3, none⟩) hlt).trans c3
    have hb2 := hb.trans (hb1.mono (Nat.le_of_lt hlt))
    have CP1 := Lib.hid (CP _ hb2).out
    clear CP CF hb hb1
    go_wp2_with fail
    (with_reducible refine Calls.mono CP1.out ?_)
    rintro ee w3 ⟨rfl, hb4⟩
    have hb5 := hb2.trans (hb4.mono hb2.size)
    go_wp2
    go_ret
    exact ⟨ret_bool (by rw [HV.out, HF.out, Bool.true_and, Bool.eq_iff_iff]; simp <;> omega), hb5⟩
end Go.Proofs.YtkhcfhhejmkikaaGreatDoor

namespace Go.Proofs.YtkhcfhhejmkikaaGreatDoor
open Go.RowKit

/-- Cells from a place on that read as Kids; the blocks to which they lead are of a kind. -/
def PdC (w : World) (S : Nat → Prop) : List E → Nat → Nat → Prop
  | [], _, _ => True
  | .mk op n s ks' :: ks, b, o =>
    (w.cell? ⟨b, o, none⟩ = some (.int .i64 op) ∧ w.cell? ⟨b, o + 1, none⟩ = some (.int .i64 n) ∧ w.cell? ⟨b, o + 2, none⟩ = some (.string s)) ∧
    (∃ A cap, w.cell? ⟨b, o + 3, none⟩ = some (.slice A ks'.length cap) ∧ (ks' = [] ∨ ∃ b' o', A = some ⟨b', o', none⟩ ∧ S b' ∧ PdC w S ks' b' o')) ∧ PdC w S ks b (o + 4)
def PdS (w : World) (S : Nat → Prop) (ks : List E) (A : Option Addr) : Prop := ks = [] ∨ ∃ b o, A = some ⟨b, o, none⟩ ∧ S b ∧ PdC w S ks b o
def PdAt (w : World) (S : Nat → Prop) (e : E) (b o : Nat) : Prop :=
  (w.cell? ⟨b, o, none⟩ = some (.int .i64 e.op) ∧ w.cell? ⟨b, o + 1, none⟩ = some (.int .i64 e.n) ∧ w.cell? ⟨b, o + 2, none⟩ = some (.string e.name)) ∧
    ∃ A cap, w.cell? ⟨b, o + 3, none⟩ = some (.slice A e.kids.length cap) ∧ PdS w S e.kids A
theorem PdC_cons (w : World) (S : Nat → Prop) (e : E) (ks : List E) (b o : Nat) : PdC w S (e :: ks) b o ↔ PdAt w S e b o ∧ PdC w S ks b (o + 4) := by
  obtain ⟨op, n, s, ks'⟩ := e
  unfold PdAt PdS
  rw [PdC]
  simp only [E.op, E.n, E.name, E.kids, and_assoc]
theorem PdC.get {w : World} {S : Nat → Prop} : ∀ {ks : List E} {b o : Nat}, PdC w S ks b o → ∀ {i : Nat} (h : i < ks.length), PdAt w S ks[i] b (o + i * 4)
  | [], _, _, _, i, h => absurd h (by simp)
  | e :: ks, b, o, hr, 0, _ => by
    rw [PdC_cons] at hr
    have e1 : o + 0 * 4 = o := by omega
    rw [e1]; exact hr.1
  | e :: ks, b, o, hr, i + 1, h => by
    rw [PdC_cons] at hr
    have := PdC.get hr.2 (i := i) (by simpa using h)
    have e1 : o + 4 + i * 4 = o + (i + 1) * 4 := by omega
    rw [e1] at this
    exact this
theorem PdC.mk {w : World} {S : Nat → Prop} : ∀ {ks : List E} {b o : Nat}, (∀ i, (h : i < ks.length) → PdAt w S ks[i] b (o + i * 4)) → PdC w S ks b o
  | [], _, _, _ => by rw [PdC]; trivial
  | e :: ks, b, o, h => by
    rw [PdC_cons]
    refine ⟨?_, PdC.mk fun i hi => ?_⟩
    · have := h 0 (by simp)
      have e1 : o + 0 * 4 = o := by omega
      rw [e1] at this; exact this
    have := h (i + 1) (by simpa using hi)
    have e1 : o + (i + 1) * 4 = o + 4 + i * 4 := by omega
    rw [e1] at this
    exact this
theorem pd_keep {w w' : World} {S S' : Nat → Prop} (hc : ∀ b o, S b → w'.cell? ⟨b, o, none⟩ = w.cell? ⟨b, o, none⟩) (hB : ∀ b, S b → S' b) : ∀ (N : Nat) (ks : List E) (A : Option Addr), sizeL ks ≤ N → PdS w S ks A → PdS w' S' ks A := by
  intro N
  induction N with
  | zero =>
    intro ks A hN h
    cases ks with
    | nil => exact .inl rfl
    | cons k ks => have := sizeE_pos k; have : sizeL (k :: ks) = sizeE k + sizeL ks := rfl; omega
  | succ N ih =>
    intro ks A hN h
    rcases h with h | ⟨b, o, e, hb, hr⟩
    · exact .inl h
    · refine .inr ⟨b, o, e, hB _ hb, PdC.mk fun i hi => ?_⟩
      obtain ⟨⟨c0, c1, c2⟩, A', cap, c3, hr'⟩ := hr.get hi
      refine ⟨⟨(hc _ _ hb).trans c0, (hc _ _ hb).trans c1, (hc _ _ hb).trans c2⟩, A', cap, (hc _ _ hb).trans c3, ih _ _ ?_ hr'⟩
      have := sizeL_get hi
      rw [sizeE_kids] at this
      omega
theorem PdS.keep {w w' : World} {S S' : Nat → Prop} {ks : List E} {A : Option Addr} (h : PdS w S ks A) (hc : ∀ b o, S b → w'.cell? ⟨b, o, none⟩ = w.cell? ⟨b, o, none⟩) (hB : ∀ b, S b → S' b) : PdS w' S' ks A :=
  pd_keep hc hB _ _ _ (Nat.le_refl _) h
theorem pd_rd {w : World} {S : Nat → Prop} {B : Nat} (hB : ∀ b, S b → b < B) : ∀ (N : Nat) (ks : List E) (A : Option Addr), sizeL ks ≤ N → PdS w S ks A → RdS w B ks A := by
  intro N
  induction N with
  | zero =>
    intro ks A hN h
    cases ks with
    | nil => exact .inl rfl
    | cons k ks => have := sizeE_pos k; have : sizeL (k :: ks) = sizeE k + sizeL ks := rfl; omega
  | succ N ih =>
    intro ks A hN h
    rcases h with h | ⟨b, o, e, hb, hr⟩
    · exact .inl h
    · refine .inr ⟨b, o, e, hB _ hb, RdC.mk fun i hi => ?_⟩
      obtain ⟨c, A', cap, c3, hr'⟩ := hr.get hi
      refine ⟨c, A', cap, c3, ih _ _ ?_ hr'⟩
      have := sizeL_get hi
      rw [sizeE_kids] at this
      omega
theorem PdS.rd {w : World} {S : Nat → Prop} {B : Nat} {ks : List E} {A : Option Addr} (h : PdS w S ks A) (hB : ∀ b, S b → b < B) : RdS w B ks A := pd_rd hB _ _ _ (Nat.le_refl _) h

/-- A block of cells that no string shares. -/
def Flat (w : World) (b : Nat) : Prop := ∃ cs t, w.heap[b]? = some (.cells cs t (0, 0))
theorem Flat.below {w w' : World} {B b : Nat} (h : Flat w b) (hb : Below B w w') (hlt : b < B) : Flat w' b := by
  obtain ⟨cs, t, h⟩ := h
  exact ⟨cs, t, by rw [hb.block b hlt]; exact h⟩
theorem Flat.set {w : World} {b : Nat} (h : Flat w b) (p : Addr) (v : Value) : Flat (w.setCell p v) b := by
  obtain ⟨cs, t, h⟩ := h
  unfold Flat World.setCell
  dsimp only
  by_cases e : p.block = b
  · subst e
    rw [Array.getElem?_modify, if_pos rfl, h]
    exact ⟨_, _, rfl⟩
  · rw [Array.getElem?_modify, if_neg e]
    exact ⟨cs, t, h⟩
/-- The blocks that a call has made. -/
def Between (w : World) (lo hi : Nat) (b : Nat) : Prop := lo ≤ b ∧ b < hi ∧ Flat w b
theorem PdS.between_rd {w : World} {lo : Nat} {ks : List E} {A : Option Addr} (h : PdS w (Between w lo w.heap.size) ks A) : RdS w w.heap.size ks A := h.rd fun _ h => h.2.1
theorem PdS.later {w w' : World} {lo hi : Nat} {ks : List E} {A : Option Addr} (h : PdS w (Between w lo hi) ks A) (hb : Below hi w w') {lo' hi' : Nat} (h1 : lo' ≤ lo) (h2 : hi ≤ hi') : PdS w' (Between w' lo' hi') ks A :=
  h.keep (fun b _ h => hb.cell (p := ⟨b, _, none⟩) h.2.1) (fun _ h => ⟨Nat.le_trans h1 h.1, Nat.lt_of_lt_of_le h.2.1 h2, h.2.2.below hb h.2.1⟩)
/-- A block ahead of all others is written. -/
theorem PdS.set' {w : World} {lo hi : Nat} {ks : List E} {A : Option Addr} (h : PdS w (Between w lo hi) ks A) {g : Nat} (hg : g < lo) (o : Nat) (v : Value) : PdS (w.setCell ⟨g, o, none⟩ v) (Between (w.setCell ⟨g, o, none⟩ v) lo hi) ks A :=
  h.keep (fun b o' h => World.cell?_setCell_other _ _ _ _ (by intro e; injection e with e; have := h.1; omega)) (fun _ h => ⟨h.1, h.2.1, h.2.2.set _ _⟩)
theorem PdS.set {w : World} {g hi : Nat} {ks : List E} {A : Option Addr} (h : PdS w (Between w (g + 1) hi) ks A) (o : Nat) (v : Value) : PdS (w.setCell ⟨g, o, none⟩ v) (Between (w.setCell ⟨g, o, none⟩ v) (g + 1) hi) ks A :=
  h.set' (Nat.lt_succ_self g) o v
theorem PdS.wide {w : World} {lo hi lo' hi' : Nat} {ks : List E} {A : Option Addr} (h : PdS w (Between w lo hi) ks A) (h1 : lo' ≤ lo) (h2 : hi ≤ hi') : PdS w (Between w lo' hi') ks A :=
  h.keep (fun _ _ _ => rfl) (fun _ h => ⟨Nat.le_trans h1 h.1, Nat.lt_of_lt_of_le h.2.1 h2, h.2.2⟩)

mutual
/-- All names and lists are such as memory holds. -/
def SmE : E → Prop
  | .mk _ _ s ks => s.size ≤ maxLen ∧ ks.length ≤ maxLen ∧ SmL ks
def SmL : List E → Prop
  | [] => True
  | k :: ks => SmE k ∧ SmL ks
end
theorem SmL_mem : ∀ {ks : List E} {k : E}, SmL ks → k ∈ ks → SmE k
  | x :: ks, k, h, hk => by
    rw [SmL] at h
    rcases List.mem_cons.1 hk with rfl | hk
    · exact h.1
    · exact SmL_mem h.2 hk
theorem SmL_mk : ∀ {ks : List E}, (∀ k ∈ ks, SmE k) → SmL ks
  | [], _ => by rw [SmL]; trivial
  | x :: ks, h => by rw [SmL]; exact ⟨h x (by simp), SmL_mk fun k hk => h k (by simp [hk])⟩
theorem SmE_mk (e : E) : SmE e ↔ e.name.size ≤ maxLen ∧ e.kids.length ≤ maxLen ∧ SmL e.kids := by cases e; rw [SmE]; rfl
mutual
theorem SmE_of_bulk : ∀ (e : E), bulkE e ≤ 1048576 → SmE e
  | .mk _ _ s ks, h => by
    have h : s.size + bulkL ks ≤ 1048576 := h
    have := sizeL_bulk ks
    have := length_le_sizeL ks
    rw [SmE]; exact ⟨by unfold maxLen; omega, by unfold maxLen; omega, SmL_of_bulk ks (by omega)⟩
theorem SmL_of_bulk : ∀ (ks : List E), bulkL ks ≤ 1048576 → SmL ks
  | [], _ => by rw [SmL]; trivial
  | k :: ks, h => by
    have h : 1 + bulkE k + bulkL ks ≤ 1048576 := h
    rw [SmL]; exact ⟨SmE_of_bulk k (by omega), SmL_of_bulk ks (by omega)⟩
end
theorem bulkL_drop (ks : List E) (i : Nat) : ks.length - i ≤ bulkL (ks.drop i) := by
  have h1 := length_le_sizeL (ks.drop i)
  have h2 := sizeL_bulk (ks.drop i)
  rw [List.length_drop] at h1
  omega
theorem bulkL_rest (ks : List E) (i : Nat) : bulkL (ks.take i) + (ks.length - i) ≤ bulkL ks := by
  have h := bulkL_app (ks.take i) (ks.drop i)
  rw [List.take_append_drop] at h
  have := bulkL_drop ks i
  omega
/-- What szExpr returns. -/
def szR (left : Int) (b : Nat) : Int := if left < b then -1 else left - b
theorem szR_no {b : Nat} (h : 1048576 < b) : szR 1048576 b = -1 := if_pos (by omega)
theorem szR_yes {b : Nat} (h : ¬ 1048576 < b) : szR 1048576 b = 1048576 - b := if_neg (by omega)
end Go.Proofs.YtkhcfhhejmkikaaGreatDoor

namespace Go.Proofs.YtkhcfhhejmkikaaGreatDoor
open Go.RowKit
set_option maxRecDepth 100000

/-- A number, and new blocks at most. -/
def IntB (n : Int) (w : World) (e : Ending) (w' : World) : Prop := e = .returned (.int .i64 n) ∧ Below w.heap.size w w'
theorem box4 (w : World) (v0 v1 v2 v3 : Value) (t : TypeId) :
    (w.alloc (.cells #[v0, v1, v2, v3] t)).cell? ⟨w.heap.size, 0, none⟩ = some v0 ∧ (w.alloc (.cells #[v0, v1, v2, v3] t)).cell? ⟨w.heap.size, 1, none⟩ = some v1 ∧ (w.alloc (.cells #[v0, v1, v2, v3] t)).cell? ⟨w.heap.size, 2, none⟩ = some v2 ∧ (w.alloc (.cells #[v0, v1, v2, v3] t)).cell? ⟨w.heap.size, 3, none⟩ = some v3 ∧ w.heap.size < (w.alloc (.cells #[v0, v1, v2, v3] t)).heap.size ∧ Below w.heap.size w (w.alloc (.cells #[v0, v1, v2, v3] t)) :=
  ⟨alloc_cell w _ _ _ 0, alloc_cell w _ _ _ 1, alloc_cell w _ _ _ 2, alloc_cell w _ _ _ 3, by rw [World.size_alloc]; omega, (Below.refl _ _).alloc (Nat.le_refl _) _⟩
theorem ret_int' {k : IntKind} {a b : Int} (h : a = b) : Ending.returned (.int k a) = .returned (.int k b) := by rw [h]


open Classical in
/-- Are two expressions one? -/
noncomputable def eqB (a b : E) : Bool := decide (a = b)
open Classical in
noncomputable def eqLB (a b : List E) : Bool := decide (a = b)
def EqE (a : E) : Prop := ∀ (b : E) (A : Option Addr) (cap : Nat) (A' : Option Addr) (cap' : Nat) (w : World), RdS w w.heap.size a.kids A → RdS w w.heap.size b.kids A' → bulkE a ≤ 2000000 → bulkE b ≤ 2000000 →
  Calls Tryz.prog 11 #[exV a A cap, exV b A' cap'] w (BoolB (eqB a b) w)
def EqL (ks : List E) : Prop := ∀ (ls : List E) (A : Option Addr) (cap : Nat) (A' : Option Addr) (cap' : Nat) (w : World), RdS w w.heap.size ks A → RdS w w.heap.size ls A' → bulkL ks ≤ 2000000 → bulkL ls ≤ 2000000 →
  Calls Tryz.prog 31 #[.slice A ks.length cap, .slice A' ls.length cap'] w (BoolB (eqLB ks ls) w)
open Classical in
theorem eqB_same (op n : Int) (s : ByteArray) (ks ls : List E) : eqB (.mk op n s ks) (.mk op n s ls) = eqLB ks ls := by
  unfold eqB eqLB
  rw [Bool.eq_iff_iff, decide_eq_true_eq, decide_eq_true_eq]
  exact ⟨fun h => by injection h, fun h => by rw [h]⟩
open Classical in
theorem eqB_no {a b : E} (h : a ≠ b) : eqB a b = false := by unfold eqB; rw [decide_eq_false_iff_not]; exact h
open Classical in
theorem eqLB_no {a b : List E} (h : a ≠ b) : eqLB a b = false := by unfold eqLB; rw [decide_eq_false_iff_not]; exact h
open Classical in
theorem eqB_yes (a : E) : eqB a a = true := by unfold eqB; rw [decide_eq_true_eq]
open Classical in
theorem eqB_iff (a b : E) : eqB a b = true ↔ a = b := by unfold eqB; rw [decide_eq_true_eq]
set_option maxHeartbeats 1000000 in
theorem eqExpr_of (a : E) (H : EqL a.kids) : EqE a := by
  intro b A cap A' cap' w hR hR' hl hsb
  unfold exV
  obtain ⟨op, n, s, ks⟩ := a
  obtain ⟨op', n', s', ls⟩ := b
  replace hl : bulkL ks ≤ 2000000 := by have h : s.size + bulkL ks ≤ 2000000 := hl; omega
  replace hsb : bulkL ls ≤ 2000000 := by have h : s'.size + bulkL ls ≤ 2000000 := hsb; omega
  dsimp only [E.op, E.n, E.name, E.kids] at *
  have hb := two_boxes w (.cells #[.int .i64 op, .int .i64 n, .string s, .slice A ks.length cap] 24) (.cells #[.int .i64 op', .int .i64 n', .string s', .slice A' ls.length cap'] 24)
  by_cases h1 : op = op'
  · subst h1
    have p1 : (op != op) = false := by simp
    by_cases h2 : n = n'
    · subst h2
      have p2 : (n != n) = false := by simp
      by_cases h3 : s = s'
      · subst h3
        have p3 : (s.toList == s.toList) = true := by simp
        have CS := H ls A cap A' cap' _ (hR.on hb hb.size) (hR'.on hb hb.size) hl hsb
        have HQ := Lib.hid (eqB_same op n s ks ls)
        clear H hR hR'
        generalize eqLB ks ls = z at *
        replace CS := Lib.hid CS
        have hbs := hb.size
        cases z
        all_goals
          go_enter Tryz.func11, Tryz.ntmps11
          go_wp2_with ((go_at_call 31; (with_reducible refine Calls.mono CS.out ?_); rintro ee w1 ⟨rfl, hb1⟩; have hb2 := hb.trans (hb1.mono hbs)))
          go_ret
          exact ⟨ret_bool (by rw [HQ.out]), hb2⟩
      · have e2 : (s.toList == s'.toList) = false := str_eq_false h3
        have HC := Lib.hid h3; clear h3 H hR hR'
        go_enter Tryz.func11, Tryz.ntmps11
        go_wp2_with fail
        go_ret
        exact ⟨ret_bool (by rw [eqB_no]; intro h; injection h with _ _ h; exact HC.out h), hb⟩
    · have e1 : (n == n') = false := beq_no h2
      have e2 : (n != n') = true := by rw [bne, e1]; rfl
      have HC := Lib.hid h2; clear h2 H hR hR'
      go_enter Tryz.func11, Tryz.ntmps11
      go_wp2_with fail
      go_ret
      exact ⟨ret_bool (by rw [eqB_no]; intro h; injection h with _ h; exact HC.out h), hb⟩
  · have e1 : (op == op') = false := beq_no h1
    have e2 : (op != op') = true := by rw [bne, e1]; rfl
    have HC := Lib.hid h1; clear h1 H hR hR'
    go_enter Tryz.func11, Tryz.ntmps11
    go_wp2_with fail
    go_ret
    exact ⟨ret_bool (by rw [eqB_no]; intro h; injection h with h; exact HC.out h), hb⟩
theorem SmL_get {ks : List E} (h : SmL ks) {i : Nat} (hi : i < ks.length) : SmE ks[i] := SmL_mem h (List.getElem_mem hi)
open Classical in
set_option maxHeartbeats 2000000 in
theorem eqExprS_of (ks : List E) (H : ∀ k ∈ ks, EqE k) : EqL ks := by
  intro ls A cap A' cap' w hR hR' hks hls
  have hn : ks.length ≤ 2000000 := by have := length_le_sizeL ks; have := sizeL_bulk ks; omega
  have hn' : ls.length ≤ 2000000 := by have := length_le_sizeL ls; have := sizeL_bulk ls; omega
  have HKS := Lib.hid hks
  have HLS := Lib.hid hls
  clear hks hls
  have HK := fun i (h : i < ks.length) => H _ (List.getElem_mem h)
  clear H
  unfold EqE exV at HK
  replace HK := Lib.hid HK
  have HR := Lib.hid hR
  have HR' := Lib.hid hR'
  clear hR hR'
  by_cases hl : ks.length = ls.length
  · have e1 : ((ks.length : Int) == (ls.length : Int)) = true := by rw [beq_iff_eq]; omega
    have e2 : ((ks.length : Int) != (ls.length : Int)) = false := by rw [bne, e1]; rfl
    have HL := Lib.hid hl; clear hl
    go_enter Tryz.func31, Tryz.ntmps31
    go_wp2_with fail
    clear e1 e2
    go_loopw [5] (fun i wr => ∃ (k : Nat), k ≤ ks.length ∧ i = .int .i64 k ∧ (∀ j, (h : j < ks.length) → (h' : j < ls.length) → j < k → ks[j] = ls[j]) ∧ Below w.heap.size w wr) (fun i _ => ks.length - (intOf i).toNat)
    case atStart => exact ⟨0, Nat.zero_le _, rfl, fun j _ _ hj => absurd hj (by omega), Below.refl _ _⟩
    case round =>
      obtain ⟨k, hk, rfl, hall, hb⟩ := hrel
      by_cases hlt : k < ks.length
      · have hlt' : k < ls.length := by have := HL.out; omega
        have hbs := hb.size
        obtain ⟨b, o, rfl, hB, ⟨c0, c1, c2⟩, A1, cap1, c3, hr⟩ := (HR.out.below hb).at_ hlt
        obtain ⟨b', o', rfl, hB', ⟨d0, d1, d2⟩, A2, cap2, d3, hr'⟩ := (HR'.out.below hb).at_ hlt'
        have hm1 : bulkE ks[k] ≤ 2000000 := by have := bulkL_mem (List.getElem_mem hlt); have := HKS.out; omega
        have hm2 : bulkE ls[k] ≤ 2000000 := by have := bulkL_mem (List.getElem_mem hlt'); have := HLS.out; omega
        have CK := HK.out k hlt ls[k] A1 cap1 A2 cap2 wr.drew ((hr.below (Below.refl _ wr).drew).more hbs) ((hr'.below (Below.refl _ wr).drew).more hbs) hm1 hm2
        have HA := Lib.hid hall; clear hall hm1 hm2 hr hr'
        generalize hs0 : ks[k] = x at *
        generalize hs1 : ls[k] = x' at *
        have HS := Lib.hid hs0; clear hs0
        have HS' := Lib.hid hs1; clear hs1
        obtain ⟨op, n, s, kk⟩ := x
        obtain ⟨op', n', s', kk'⟩ := x'
        dsimp only [E.op, E.n, E.name, E.kids] at c0 c1 c2 c3 d0 d1 d2 d3 CK
        have hBr : b < wr.heap.size := Nat.lt_of_lt_of_le hB hbs
        have hBr' : b' < wr.heap.size := Nat.lt_of_lt_of_le hB' hbs
        go_wp2_with fail
        cases hd : eqB (E.mk op n s kk) (E.mk op' n' s' kk')
        · rw [hd] at CK
          replace CK := Lib.hid CK
          have hne : ks ≠ ls := by
            intro e
            have h1 := HS.out
            have h2 := HS'.out
            simp only [e] at h1
            rw [← h1, ← h2, eqB_yes] at hd
            cases hd
          have HN := Lib.hid hne
          clear hne hd
          go_region_held3 (fun u => u.cell? ⟨b, o + k * 4, none⟩ = some (.int .i64 op) ∧ u.cell? ⟨b, o + k * 4 + 1, none⟩ = some (.int .i64 n) ∧ u.cell? ⟨b, o + k * 4 + 2, none⟩ = some (.string s) ∧ u.cell? ⟨b, o + k * 4 + 3, none⟩ = some (.slice A1 kk.length cap1) ∧ u.cell? ⟨b', o' + k * 4, none⟩ = some (.int .i64 op') ∧ u.cell? ⟨b', o' + k * 4 + 1, none⟩ = some (.int .i64 n') ∧ u.cell? ⟨b', o' + k * 4 + 2, none⟩ = some (.string s') ∧ u.cell? ⟨b', o' + k * 4 + 3, none⟩ = some (.slice A2 kk'.length cap2)) (go_keep)
            (first | (go_at_call 11; (with_reducible refine Calls.mono CK.out ?_); rintro e w' ⟨rfl, hb1⟩; have g0 := (hb1.cell (p := ⟨b, o + k * 4, none⟩) hBr).trans c0; have g1 := (hb1.cell (p := ⟨b, o + k * 4 + 1, none⟩) hBr).trans c1; have g2 := (hb1.cell (p := ⟨b, o + k * 4 + 2, none⟩) hBr).trans c2; have g3 := (hb1.cell (p := ⟨b, o + k * 4 + 3, none⟩) hBr).trans c3; have q0 := (hb1.cell (p := ⟨b', o' + k * 4, none⟩) hBr').trans d0; have q1 := (hb1.cell (p := ⟨b', o' + k * 4 + 1, none⟩) hBr').trans d1; have q2 := (hb1.cell (p := ⟨b', o' + k * 4 + 2, none⟩) hBr').trans d2; have q3 := (hb1.cell (p := ⟨b', o' + k * 4 + 3, none⟩) hBr').trans d3))
          have hb2 := hb.drew.trans (hb1.mono hbs)
          clear hb hb1
          go_wp2_with fail
          go_ret
          exact ⟨ret_bool (by rw [eqLB_no HN.out]), hb2⟩
        · rw [hd] at CK
          replace CK := Lib.hid CK
          have HD := Lib.hid ((eqB_iff _ _).1 hd)
          clear hd
          go_region_held3 (fun u => u.cell? ⟨b, o + k * 4, none⟩ = some (.int .i64 op) ∧ u.cell? ⟨b, o + k * 4 + 1, none⟩ = some (.int .i64 n) ∧ u.cell? ⟨b, o + k * 4 + 2, none⟩ = some (.string s) ∧ u.cell? ⟨b, o + k * 4 + 3, none⟩ = some (.slice A1 kk.length cap1) ∧ u.cell? ⟨b', o' + k * 4, none⟩ = some (.int .i64 op') ∧ u.cell? ⟨b', o' + k * 4 + 1, none⟩ = some (.int .i64 n') ∧ u.cell? ⟨b', o' + k * 4 + 2, none⟩ = some (.string s') ∧ u.cell? ⟨b', o' + k * 4 + 3, none⟩ = some (.slice A2 kk'.length cap2)) (go_keep)
            (first | (go_at_call 11; (with_reducible refine Calls.mono CK.out ?_); rintro e w' ⟨rfl, hb1⟩; have g0 := (hb1.cell (p := ⟨b, o + k * 4, none⟩) hBr).trans c0; have g1 := (hb1.cell (p := ⟨b, o + k * 4 + 1, none⟩) hBr).trans c1; have g2 := (hb1.cell (p := ⟨b, o + k * 4 + 2, none⟩) hBr).trans c2; have g3 := (hb1.cell (p := ⟨b, o + k * 4 + 3, none⟩) hBr).trans c3; have q0 := (hb1.cell (p := ⟨b', o' + k * 4, none⟩) hBr').trans d0; have q1 := (hb1.cell (p := ⟨b', o' + k * 4 + 1, none⟩) hBr').trans d1; have q2 := (hb1.cell (p := ⟨b', o' + k * 4 + 2, none⟩) hBr').trans d2; have q3 := (hb1.cell (p := ⟨b', o' + k * 4 + 3, none⟩) hBr').trans d3))
          have hb2 := hb.drew.trans (hb1.mono hbs)
          clear hb hb1
          go_wp2_with fail
          go_roundw
          case rel => exact ⟨k + 1, by omega, by go_num, fun j h1 h2 hjk => by
            by_cases e : j = k
            · subst e; exact (HS.out.trans HD.out).trans HS'.out.symm
            · exact HA.out j h1 h2 (by omega), hb2⟩
          case measure => simp only [intOf]; omega
      · obtain rfl : k = ks.length := by omega
        go_wp2_with fail
        go_ret
        refine ⟨ret_bool ?_, hb⟩
        unfold eqLB
        rw [eq_comm, decide_eq_true_eq]
        exact List.ext_getElem HL.out (fun j h1 h2 => hall j h1 h2 h1)
  · have e1 : ((ks.length : Int) == (ls.length : Int)) = false := by rw [beq_eq_false_iff_ne]; omega
    have e2 : ((ks.length : Int) != (ls.length : Int)) = true := by rw [bne, e1]; rfl
    have HL := Lib.hid hl; clear hl
    go_enter Tryz.func31, Tryz.ntmps31
    go_wp2_with fail
    go_ret
    exact ⟨ret_bool (by rw [eqLB_no (fun e => HL.out (by rw [e]))]), Below.refl _ _⟩
theorem eqExpr_any (a : E) : EqE a := by
  refine E.ind (P := fun e => EqE e) ?_ a
  intro e ih
  exact eqExpr_of e (eqExprS_of _ fun k hk => ih k hk)
theorem eqExpr_self (e : E) (h : bulkE e ≤ 1048576) (A : Option Addr) (cap : Nat) (A' : Option Addr) (cap' : Nat) (w : World) (h1 : RdS w w.heap.size e.kids A) (h2 : RdS w w.heap.size e.kids A') :
    Calls Tryz.prog 11 #[exV e A cap, exV e A' cap'] w (BoolB true w) := by
  have := eqExpr_any e e A cap A' cap' w h1 h2 (by omega) (by omega)
  rw [eqB_yes] at this
  exact this
end Go.Proofs.YtkhcfhhejmkikaaGreatDoor

namespace Go.Proofs.YtkhcfhhejmkikaaGreatDoor
open Go.RowKit
set_option maxRecDepth 100000

/-- The first k Kids stand in a row of block g; what they lead to lies behind it. -/
def toPart (ks : List E) (g : Nat) (w : World) (k : Nat) (xs : List Value) : Prop := xs.length = ks.length * 4 ∧ ∀ j, (h : j < ks.length) → j < k →
  xs[j * 4]? = some (.int .i64 ks[j].op) ∧ xs[j * 4 + 1]? = some (.int .i64 ks[j].n) ∧ xs[j * 4 + 2]? = some (.string ks[j].name) ∧
    ∃ A, xs[j * 4 + 3]? = some (.slice A ks[j].kids.length ks[j].kids.length) ∧ PdS w (Between w (g + 1) w.heap.size) ks[j].kids A
theorem toPart.later {ks : List E} {g k : Nat} {w w' : World} {xs : List Value} (h : toPart ks g w k xs) (hb : Below w.heap.size w w') : toPart ks g w' k xs := by
  refine ⟨h.1, fun j hj hk => ?_⟩
  obtain ⟨a, b, c, A, d, e⟩ := h.2 j hj hk
  exact ⟨a, b, c, A, d, e.later hb (Nat.le_refl _) hb.size⟩
theorem toPart.set {ks : List E} {g k : Nat} {w : World} {xs : List Value} (h : toPart ks g w k xs) (o : Nat) (v : Value) : toPart ks g (w.setCell ⟨g, o, none⟩ v) k xs := by
  refine ⟨h.1, fun j hj hk => ?_⟩
  obtain ⟨a, b, c, A, d, e⟩ := h.2 j hj hk
  have e' := e.set o v
  have hz : (w.setCell ⟨g, o, none⟩ v).heap.size = w.heap.size := by simp
  rw [hz]
  exact ⟨a, b, c, A, d, e'⟩
theorem toPart.step {ks : List E} {g k : Nat} {w : World} {xs : List Value} (h : toPart ks g w k xs) (hk : k < ks.length) {op n : Int} {s : ByteArray} {kk : List E} (he : ks[k] = .mk op n s kk) {A : Option Addr} (hp : PdS w (Between w (g + 1) w.heap.size) kk A) :
    toPart ks g w (k + 1) ((((xs.set (k * 4) (.int .i64 op)).set (k * 4 + 1) (.int .i64 n)).set (k * 4 + 2) (.string s)).set (k * 4 + 3) (.slice A kk.length kk.length)) := by
  have hl := h.1
  obtain ⟨e0, e1, e2, e3⟩ : op = ks[k].op ∧ n = ks[k].n ∧ s = ks[k].name ∧ kk = ks[k].kids := by rw [he]; exact ⟨rfl, rfl, rfl, rfl⟩
  clear he
  subst e0 e1 e2 e3
  refine ⟨by simpa using hl, fun j hj hjk => ?_⟩
  by_cases e : j = k
  · subst e
    refine ⟨?_, ?_, ?_, A, ?_, hp⟩
    · rw [List.getElem?_set_ne (by omega), List.getElem?_set_ne (by omega), List.getElem?_set_ne (by omega), List.getElem?_set_self (by omega)]
    · rw [List.getElem?_set_ne (by omega), List.getElem?_set_ne (by omega), List.getElem?_set_self (by rw [List.length_set]; omega)]
    · rw [List.getElem?_set_ne (by omega), List.getElem?_set_self (by rw [List.length_set, List.length_set]; omega)]
    · rw [List.getElem?_set_self (by rw [List.length_set, List.length_set, List.length_set]; omega)]
  · obtain ⟨a, b, c, A', d, e'⟩ := h.2 j hj (by omega)
    refine ⟨?_, ?_, ?_, A', ?_, e'⟩
    all_goals
      rw [List.getElem?_set_ne (by omega), List.getElem?_set_ne (by omega), List.getElem?_set_ne (by omega), List.getElem?_set_ne (by omega)]
      assumption
theorem toPart.zero {ks : List E} {g : Nat} {w : World} {xs : List Value} (h : xs.length = ks.length * 4) : toPart ks g w 0 xs := ⟨h, fun j _ hj => absurd hj (by omega)⟩
theorem row_flat {w : World} {base : Nat} {e : TypeId} {size n cap g : Nat} {xs : List Value} (h : w.ownsRow base e size (.slice (some ⟨g, 0, none⟩) n cap) n xs) : Flat w g := by
  rcases h.2 with ⟨e1, _⟩ | ⟨g', cap', cur, e1, _, e2, _⟩
  · cases e1
  · injection e1 with e1
    injection e1 with e1
    injection e1 with e1
    subst e1
    exact ⟨_, _, e2⟩
theorem toPart.done {ks : List E} {g : Nat} {w : World} {xs : List Value} {base : Nat} {e : TypeId} {cap : Nat} (h : toPart ks g w ks.length xs) (ho : w.ownsRow base e 4 (.slice (some ⟨g, 0, none⟩) ks.length cap) ks.length xs) :
    PdS w (Between w g w.heap.size) ks (some ⟨g, 0, none⟩) := by
  have hg := ho.lt g rfl
  refine .inr ⟨g, 0, rfl, ⟨Nat.le_refl _, hg.2, row_flat ho⟩, PdC.mk fun i hi => ?_⟩
  obtain ⟨a, b, c, A, d, e'⟩ := h.2 i hi hi
  have hl := h.1
  have cell : ∀ j, i * 4 ≤ j → j < i * 4 + 4 → w.cell? ⟨g, 0 + j, none⟩ = xs[j]? := by
    intro j _ hj
    rw [Nat.zero_add]
    exact ho.cellAt j (by omega)
  refine ⟨⟨(cell _ (by omega) (by omega)).trans a, (cell _ (by omega) (by omega)).trans b, (cell _ (by omega) (by omega)).trans c⟩, A, _, (cell _ (by omega) (by omega)).trans d, ?_⟩
  exact e'.wide (Nat.le_succ _) (Nat.le_refl _)
def ToRet (e : E) (w : World) (ee : Ending) (w' : World) : Prop := (∃ A, ee = .returned (exV e A e.kids.length) ∧ PdS w' (Between w' w.heap.size w'.heap.size) e.kids A) ∧ Below w.heap.size w w'
def ToLRet (ks : List E) (w : World) (ee : Ending) (w' : World) : Prop := (∃ A, ee = .returned (.slice A ks.length ks.length) ∧ PdS w' (Between w' w.heap.size w'.heap.size) ks A) ∧ Below w.heap.size w w'
theorem exprInfo : (Tryz.prog.info? 24).map (fun i => (i.zero, i.size, i.bytes)) = some (some (.agg #[.int .i64 0, .int .i64 0, .string ⟨#[]⟩, .slice none 0 0]), 4, 56) := by kernel_rfl

/-- Three new blocks, of which two are known. -/
theorem three_blocks (w : World) (a : Obj) (z0 z1 z2 z3 v0 v1 v2 v3 : Value) (t t' : TypeId) (w1 : World)
    (hb : Below (((w.alloc a).alloc (.cells #[z0, z1, z2, z3] t)).alloc (.cells #[v0, v1, v2, v3] t')).heap.size (((w.alloc a).alloc (.cells #[z0, z1, z2, z3] t)).alloc (.cells #[v0, v1, v2, v3] t')) w1) :
    (w1.cell? ⟨w.heap.size + 1 + 1, 0, none⟩ = some v0 ∧ w1.cell? ⟨w.heap.size + 1 + 1, 1, none⟩ = some v1 ∧ w1.cell? ⟨w.heap.size + 1 + 1, 2, none⟩ = some v2 ∧ w1.cell? ⟨w.heap.size + 1 + 1, 3, none⟩ = some v3) ∧
    (w1.cell? ⟨w.heap.size + 1, 0, none⟩ = some z0 ∧ w1.cell? ⟨w.heap.size + 1, 1, none⟩ = some z1 ∧ w1.cell? ⟨w.heap.size + 1, 2, none⟩ = some z2 ∧ w1.cell? ⟨w.heap.size + 1, 3, none⟩ = some z3) ∧
    (∀ o, w1.frozen? ⟨w.heap.size + 1 + 1, o, none⟩ = false) ∧ (∀ o, w1.frozen? ⟨w.heap.size + 1, o, none⟩ = false) ∧ w.heap.size + 1 + 1 < w1.heap.size ∧ Below w.heap.size w w1 := by
  have s1 : (w.alloc a).heap.size = w.heap.size + 1 := World.size_alloc _ _
  have s2 : ((w.alloc a).alloc (.cells #[z0, z1, z2, z3] t)).heap.size = w.heap.size + 1 + 1 := by rw [World.size_alloc, s1]
  have s3 : (((w.alloc a).alloc (.cells #[z0, z1, z2, z3] t)).alloc (.cells #[v0, v1, v2, v3] t')).heap.size = w.heap.size + 1 + 1 + 1 := by rw [World.size_alloc, s2]
  have hz := hb.size
  rw [s3] at hz
  have hal := (Below.refl _ ((w.alloc a).alloc (.cells #[z0, z1, z2, z3] t))).alloc (Nat.le_refl _) (.cells #[v0, v1, v2, v3] t')
  have A := fun k => alloc_cell ((w.alloc a).alloc (.cells #[z0, z1, z2, z3] t)) #[v0, v1, v2, v3] t' (0, 0) k
  have Z := fun k => alloc_cell (w.alloc a) #[z0, z1, z2, z3] t (0, 0) k
  have AF := fun k => alloc_frozen ((w.alloc a).alloc (.cells #[z0, z1, z2, z3] t)) #[v0, v1, v2, v3] t' k
  have ZF := fun k => alloc_frozen (w.alloc a) #[z0, z1, z2, z3] t k
  rw [s2] at A AF
  rw [s1] at Z ZF
  have h1 : ∀ k, w1.cell? ⟨w.heap.size + 1 + 1, k, none⟩ = _ := fun k => (hb.cell (p := ⟨w.heap.size + 1 + 1, k, none⟩) (by show w.heap.size + 1 + 1 < _; rw [s3]; omega)).trans (A k)
  have h2 : ∀ k, w1.cell? ⟨w.heap.size + 1, k, none⟩ = _ := fun k => ((hb.cell (p := ⟨w.heap.size + 1, k, none⟩) (by show w.heap.size + 1 < _; rw [s3]; omega)).trans (hal.cell (p := ⟨w.heap.size + 1, k, none⟩) (by show w.heap.size + 1 < _; rw [s2]; omega))).trans (Z k)
  refine ⟨⟨h1 0, h1 1, h1 2, h1 3⟩, ⟨h2 0, h2 1, h2 2, h2 3⟩, fun k => (hb.frozen (p := ⟨w.heap.size + 1 + 1, k, none⟩) (by show w.heap.size + 1 + 1 < _; rw [s3]; omega)).trans (AF k), fun k => ((hb.frozen (p := ⟨w.heap.size + 1, k, none⟩) (by show w.heap.size + 1 < _; rw [s3]; omega)).trans (hal.frozen (p := ⟨w.heap.size + 1, k, none⟩) (by show w.heap.size + 1 < _; rw [s2]; omega))).trans (ZF k), by omega, ?_⟩
  exact ((((Below.refl _ _).alloc (Nat.le_refl _) _).alloc (by rw [s1]; omega) _).alloc (by rw [s2]; omega) _).trans (hb.mono (by rw [s3]; omega))
end Go.Proofs.YtkhcfhhejmkikaaGreatDoor

namespace Go.Proofs.YtkhcfhhejmkikaaGreatDoor
open Go.RowKit
set_option maxRecDepth 100000

/-- What drawing an expression without Kids leaves. -/
def LeafRet (R p : Nat) (w : World) (ee : Ending) (w' : World) : Prop := ∃ (op n : Int) (s : ByteArray), s.size ≤ 8 ∧ ee = .returned (.agg #[.int .i64 op, .int .i64 n, .string s, .slice none 0 0]) ∧ DrewT R p w w'
/-- A block of four cells behind the reader, which is the call's own. -/
structure Res (w : World) (b : Nat) (v0 v1 v2 v3 : Value) : Prop where
  c : Bx4 w b v0 v1 v2 v3
  f : ∀ o, w.frozen? ⟨b, o, none⟩ = false
  lt : b < w.heap.size
theorem Res.touch {w w' : World} {R b : Nat} {v0 v1 v2 v3 : Value} (h : Res w b v0 v1 v2 v3) (ht : Touch R w w') (hR : R < b) : Res w' b v0 v1 v2 v3 :=
  ⟨⟨(ht.cell hR h.lt).trans h.c.1, (ht.cell hR h.lt).trans h.c.2.1, (ht.cell hR h.lt).trans h.c.2.2.1, (ht.cell hR h.lt).trans h.c.2.2.2⟩, fun o => (ht.frozen hR h.lt).trans (h.f o), Nat.lt_of_lt_of_le h.lt ht.below.size⟩
theorem Res.new (w : World) (v0 v1 v2 v3 : Value) (t : TypeId) : Res (w.alloc (.cells #[v0, v1, v2, v3] t)) w.heap.size v0 v1 v2 v3 :=
  ⟨Bx4.new w _ _ _ _ t, fun o => alloc_frozen w _ t o, by rw [World.size_alloc]; omega⟩
set_option maxHeartbeats 2000000 in
theorem leaf_names (R p b o cap : Nat) (ss : List ByteArray) (w : World) (h : Rd w R p) (hp : p ≤ 900000) (hn1 : 1 ≤ ss.length) (hn2 : ss.length ≤ 1000) (hs : ∀ s ∈ ss, s.size ≤ 8) (hN : NmS w R b o ss) :
    Calls Tryz.prog 56 #[.pointer (some ⟨R, 0, none⟩), .slice (some ⟨b, o, none⟩) ss.length cap] w (LeafRet R (p + 2) w) := by
  have hlt := h.lt
  have q0 : ((ss.length : Int) == 0) = false := beq_no (by omega)
  have hb0 := (Below.refl w.heap.size w).alloc (Nat.le_refl _) (.cells #[.int .i64 0, .int .i64 0, .string ⟨#[]⟩, .slice none 0 0] 24)
  have D0 := Lib.hid (DrewT.below h hb0)
  have R0 := Lib.hid (Res.new w (.int .i64 0) (.int .i64 0) (.string ⟨#[]⟩) (.slice none 0 0) 24)
  have PK := Lib.hid (pick_t R p 3 _ (h.keep hb0) (by omega) (by omega) (by omega))
  have N0 := Lib.hid (hN.touch (Touch.of_below hb0 hlt))
  have HS := Lib.hid hs
  clear hN hs hb0 h
  go_enter Tryz.func56, Tryz.ntmps56
  go_wp2_with fail
  refine Calls.mono PK.out ?_
  rintro ee w1 ⟨r, hr, rfl, hd1⟩
  have D1 := Lib.hid (D0.out.trans hd1)
  have R1 := Lib.hid (R0.out.touch hd1.2 hlt)
  have N1 := Lib.hid (N0.out.touch hd1.2)
  obtain ⟨p1, hp1, hr1⟩ := hd1.1
  clear hd1 D0 R0 N0 PK q0
  have hl1 := R1.out.lt
  by_cases hz : r = 0
  · subst hz
    have NM := Lib.hid (num_t R p1 [0, 1, 2, 3, 5, 7, 15, 16, 100, 255] w1 3 (0, 0) hr1 (by omega) (by simp) (by simp))
    go_wp2_with fail
    refine Calls.mono NM.out ?_
    rintro ee w2 ⟨z, hz, rfl, hd2⟩
    have D2 := Lib.hid ((D1.out.trans hd2).more (show p1 + 1 ≤ p + 2 by omega))
    have R2 := R1.out.touch hd2.2 hlt
    obtain ⟨c0, c1, c2, c3⟩ := R2.c
    have f0 := R2.f 0
    have f1 := R2.f 1
    have f2 := R2.f 2
    have f3 := R2.f 3
    clear hd2 NM D1 R1 N1 R2 HS
    go_wp2_with fail
    refine bodyPost_ret (v := .agg #[.int .i64 1, .int .i64 z, .string ⟨#[]⟩, .slice none 0 0]) (by simp [results, Tryz.results56, go_sem, c0, c1, c2, c3]) rfl ⟨1, z, ⟨#[]⟩, Nat.zero_le _, rfl, ?_⟩
    exact (((D2.out.set (Nat.le_refl _) hlt 0 _).set (Nat.le_refl _) hlt 1 _).set (Nat.le_refl _) hlt 2 _).set (Nat.le_refl _) hlt 3 _
  · have q1 : ((r : Int) == 0) = false := beq_no (by omega)
    have NM := Lib.hid (of_t R p1 b o cap ss w1 hr1 (by omega) hn1 hn2 N1.out)
    go_wp2_with fail
    refine Calls.mono NM.out ?_
    rintro ee w2 ⟨s, hs, rfl, hd2⟩
    have hs8 := HS.out s hs
    have D2 := Lib.hid ((D1.out.trans hd2).more (show p1 + 1 ≤ p + 2 by omega))
    have R2 := R1.out.touch hd2.2 hlt
    obtain ⟨c0, c1, c2, c3⟩ := R2.c
    have f0 := R2.f 0
    have f1 := R2.f 1
    have f2 := R2.f 2
    have f3 := R2.f 3
    clear hd2 NM D1 R1 N1 R2 HS hs
    go_wp2_with fail
    refine bodyPost_ret (v := .agg #[.int .i64 2, .int .i64 0, .string s, .slice none 0 0]) (by simp [results, Tryz.results56, go_sem, c0, c1, c2, c3]) rfl ⟨2, 0, s, hs8, rfl, ?_⟩
    exact (((D2.out.set (Nat.le_refl _) hlt 0 _).set (Nat.le_refl _) hlt 1 _).set (Nat.le_refl _) hlt 2 _).set (Nat.le_refl _) hlt 3 _
set_option maxHeartbeats 2000000 in
theorem leaf_nil (R p : Nat) (w : World) (h : Rd w R p) (hp : p ≤ 900000) :
    Calls Tryz.prog 56 #[.pointer (some ⟨R, 0, none⟩), .slice none 0 0] w (LeafRet R (p + 2) w) := by
  have hlt := h.lt
  have hb0 := (Below.refl w.heap.size w).alloc (Nat.le_refl _) (.cells #[.int .i64 0, .int .i64 0, .string ⟨#[]⟩, .slice none 0 0] 24)
  have D0 := Lib.hid (DrewT.below h hb0)
  have R0 := Lib.hid (Res.new w (.int .i64 0) (.int .i64 0) (.string ⟨#[]⟩) (.slice none 0 0) 24)
  have NM := Lib.hid (num_t R p [0, 1, 2, 3, 5, 7, 15, 16, 100, 255] _ 3 (0, 0) (h.keep hb0) (by omega) (by simp) (by simp))
  clear hb0 h
  go_enter Tryz.func56, Tryz.ntmps56
  go_wp2_with fail
  rw [World.size_alloc] at NM
  refine Calls.mono NM.out ?_
  rintro ee w2 ⟨z, hz, rfl, hd2⟩
  have D2 := Lib.hid ((D0.out.trans hd2).more (show p + 1 ≤ p + 2 by omega))
  have R2 := R0.out.touch hd2.2 hlt
  obtain ⟨c0, c1, c2, c3⟩ := R2.c
  have f0 := R2.f 0
  have f1 := R2.f 1
  have f2 := R2.f 2
  have f3 := R2.f 3
  clear hd2 NM D0 R0 R2
  go_wp2_with fail
  refine bodyPost_ret (v := .agg #[.int .i64 1, .int .i64 z, .string ⟨#[]⟩, .slice none 0 0]) (by simp [results, Tryz.results56, go_sem, c0, c1, c2, c3]) rfl ⟨1, z, ⟨#[]⟩, Nat.zero_le _, rfl, ?_⟩
  exact (((D2.out.set (Nat.le_refl _) hlt 0 _).set (Nat.le_refl _) hlt 1 _).set (Nat.le_refl _) hlt 2 _).set (Nat.le_refl _) hlt 3 _
end Go.Proofs.YtkhcfhhejmkikaaGreatDoor

namespace Go.Proofs.YtkhcfhhejmkikaaGreatDoor
open Go.RowKit
set_option maxRecDepth 100000

/-- Kids in a row of the call's own, and what they lead to, behind block lo. -/
def DrK (w : World) (lo : Nat) (v : Value) (ks : List E) : Prop := ∃ xs, w.ownsRow lo 24 4 v ks.length xs ∧ ∀ j, (h : j < ks.length) →
  xs[j * 4]? = some (.int .i64 ks[j].op) ∧ xs[j * 4 + 1]? = some (.int .i64 ks[j].n) ∧ xs[j * 4 + 2]? = some (.string ks[j].name) ∧
    ∃ A c, xs[j * 4 + 3]? = some (.slice A ks[j].kids.length c) ∧ PdS w (fun b => Between w lo w.heap.size b ∧ v.ownBlock ≠ some b) ks[j].kids A
theorem DrK.nil (w : World) (lo : Nat) : DrK w lo (.slice none 0 0) [] := ⟨[], World.ownsRow_nil _ _ _ _, fun j h => absurd h (by simp)⟩
theorem flat_of_eq {w w' : World} {b : Nat} (h : Flat w b) (e : w'.heap[b]? = w.heap[b]?) : Flat w' b := by
  obtain ⟨cs, t, h⟩ := h
  exact ⟨cs, t, e.trans h⟩
theorem DrK.keep {w w' : World} {lo : Nat} {v : Value} {ks : List E} (h : DrK w lo v ks) (hk : ∀ b, lo ≤ b → b < w.heap.size → w'.heap[b]? = w.heap[b]?) (hz : w.heap.size ≤ w'.heap.size) : DrK w' lo v ks := by
  obtain ⟨xs, ho, hx⟩ := h
  refine ⟨xs, ?_, fun j hj => ?_⟩
  · rcases ho with ⟨h1, h2 | ⟨g, cap, cur, e1, e2, e3, e4⟩⟩
    · exact ⟨h1, .inl h2⟩
    · exact ⟨h1, .inr ⟨g, cap, cur, e1, e2, (hk g e2 (Array.getElem?_eq_some_iff.1 e3).1).trans e3, e4⟩⟩
  · obtain ⟨a, b, c, A, d, e, f⟩ := hx j hj
    exact ⟨a, b, c, A, d, e, f.keep (fun b o hb => World.cell?_of_block (hk b hb.1.1 hb.1.2.1)) (fun b hb => ⟨⟨hb.1.1, Nat.lt_of_lt_of_le hb.1.2.1 hz, flat_of_eq hb.1.2.2 (hk b hb.1.1 hb.1.2.1)⟩, hb.2⟩)⟩
theorem DrK.touch {w w' : World} {R lo : Nat} {v : Value} {ks : List E} (h : DrK w lo v ks) (ht : Touch R w w') (hR : R < lo) : DrK w' lo v ks := h.keep (fun b h1 h2 => ht.above b (by omega) h2) ht.below.size
theorem DrK.set {w : World} {lo : Nat} {v : Value} {ks : List E} (h : DrK w lo v ks) {b : Nat} (hb : b < lo) (o : Nat) (u : Value) : DrK (w.setCell ⟨b, o, none⟩ u) lo v ks :=
  h.keep (fun k h1 _ => by show (w.heap.modify b _)[k]? = _; rw [Array.getElem?_modify, if_neg (by omega)]) (by simp)
theorem DrK.wide {w : World} {lo lo' : Nat} {v : Value} {ks : List E} (h : DrK w lo v ks) (hl : lo' ≤ lo) : DrK w lo' v ks := by
  obtain ⟨xs, ho, hx⟩ := h
  refine ⟨xs, ?_, fun j hj => ?_⟩
  · rcases ho with ⟨h1, h2 | ⟨g, cap, cur, e1, e2, e3⟩⟩
    · exact ⟨h1, .inl h2⟩
    · exact ⟨h1, .inr ⟨g, cap, cur, e1, Nat.le_trans hl e2, e3⟩⟩
  · obtain ⟨a, b, c, A, d, e, f⟩ := hx j hj
    exact ⟨a, b, c, A, d, e, f.keep (fun _ _ _ => rfl) (fun b hb => ⟨⟨Nat.le_trans hl hb.1.1, hb.1.2⟩, hb.2⟩)⟩
theorem DrK.pd {w : World} {lo n c : Nat} {A : Option Addr} {ks : List E} (h : DrK w lo (.slice A n c) ks) : PdS w (Between w lo w.heap.size) ks A := by
  obtain ⟨xs, ho, hx⟩ := h
  rcases ho.2 with ⟨e, h0⟩ | ⟨g, cap, cur, e, hg, hb, hn, hm, hs, ht⟩
  · exact .inl (List.length_eq_zero_iff.1 h0)
  · injection e with e1 e2 e3
    subst e1
    have hlt : g < w.heap.size := (Array.getElem?_eq_some_iff.1 hb).1
    refine .inr ⟨g, 0, rfl, ⟨hg, hlt, _, _, hb⟩, PdC.mk fun i hi => ?_⟩
    obtain ⟨a, b, cc, A', d, ee, f⟩ := hx i hi
    have cell : ∀ j, j < ks.length * 4 → w.cell? ⟨g, 0 + j, none⟩ = xs[j]? := by
      intro j hj
      rw [Nat.zero_add, ← ht, List.getElem?_take_of_lt hj]
      unfold World.cell?
      simp [hb]
    exact ⟨⟨(cell _ (by omega)).trans a, (cell _ (by omega)).trans b, (cell _ (by omega)).trans cc⟩, A', d, (cell _ (by omega)).trans ee, f.keep (fun _ _ _ => rfl) (fun _ h => h.1)⟩
/-- A Kid as it is handed on. -/
structure Kd where
  e : E
  A : Option Addr
  c : Nat
def Kd.cells (k : Kd) : List Value := [.int .i64 k.e.op, .int .i64 k.e.n, .string k.e.name, .slice k.A k.e.kids.length k.c]
def kdCells : List Kd → List Value
  | [] => []
  | k :: l => k.cells ++ kdCells l
theorem kdCells_length : ∀ (l : List Kd), (kdCells l).length = l.length * 4
  | [] => rfl
  | k :: l => by show (k.cells ++ kdCells l).length = (l.length + 1) * 4; rw [List.length_append, kdCells_length l]; show 4 + _ = _; omega
theorem kdCells_at : ∀ (l : List Kd) (j : Nat) (h : j < l.length) (i : Nat), i < 4 → (kdCells l)[j * 4 + i]? = l[j].cells[i]?
  | [], j, h, _, _ => absurd h (by simp)
  | k :: l, 0, _, i, hi => by
    show (k.cells ++ kdCells l)[0 * 4 + i]? = k.cells[i]?
    rw [List.getElem?_append_left (by show _ < 4; omega)]
    congr 1
    omega
  | k :: l, j + 1, h, i, hi => by
    have hj : j < l.length := by simpa using h
    have ih := kdCells_at l j hj i hi
    show (k.cells ++ kdCells l)[(j + 1) * 4 + i]? = l[j].cells[i]?
    rw [List.getElem?_append_right (by show 4 ≤ _; omega), ← ih]
    congr 1
    show (j + 1) * 4 + i - 4 = _
    omega
/-- A list that is written out, in a block of its own. -/
theorem DrK.lit {w : World} {lo : Nat} (l : List Kd) (hlo : lo ≤ w.heap.size) (hl : l.length ≤ 1000) (hk : ∀ k ∈ l, DrK w lo (.slice k.A k.e.kids.length k.c) k.e.kids) :
    DrK (w.alloc (.cells (kdCells l).toArray 24)) lo (.slice (some ⟨w.heap.size, 0, none⟩) l.length l.length) (l.map (·.e)) := by
  have hb : ∀ b, b < w.heap.size → (w.alloc (.cells (kdCells l).toArray 24)).heap[b]? = w.heap[b]? := fun b hb => heap_alloc_old _ _ hb
  have hz : (w.alloc (.cells (kdCells l).toArray 24)).heap.size = w.heap.size + 1 := World.size_alloc _ _
  refine ⟨kdCells l, ⟨by rw [List.length_map, kdCells_length], .inr ⟨w.heap.size, l.length, (kdCells l).toArray, by rw [List.length_map], hlo, heap_alloc_new _ _, by rw [List.length_map]; exact Nat.le_refl _, by unfold maxLen; omega, by rw [List.size_toArray, kdCells_length], ?_⟩⟩, fun j hj => ?_⟩
  · rw [List.length_map, ← kdCells_length, List.take_length]
  · have hj' : j < l.length := by simpa using hj
    have a0 := kdCells_at l j hj' 0 (by omega)
    have a1 := kdCells_at l j hj' 1 (by omega)
    have a2 := kdCells_at l j hj' 2 (by omega)
    have a3 := kdCells_at l j hj' 3 (by omega)
    rw [Nat.add_zero] at a0
    rw [List.getElem_map]
    refine ⟨a0, a1, a2, _, _, a3, ?_⟩
    have hd := (hk l[j] (List.getElem_mem hj')).pd
    exact hd.keep (fun b o h => World.cell?_of_block (hb b h.2.1)) (fun b h => ⟨⟨h.1, by rw [hz]; have := h.2.1; omega, flat_of_eq h.2.2 (hb b h.2.1)⟩, by intro e; injection e with e; have := h.2.1; dsimp only at e; omega⟩)
/-- What drawing an expression leaves. -/
def DrRet (R p bd : Nat) (w : World) (ee : Ending) (w' : World) : Prop := ∃ (e : E) (A : Option Addr) (c : Nat), ee = .returned (exV e A c) ∧ DrK w' w.heap.size (.slice A e.kids.length c) e.kids ∧ bulkE e ≤ bd ∧ DrewT R p w w'
def pk : Nat → Nat
  | 0 => 4
  | n + 1 => 2 * pk n + 4
def bdE : Nat → Nat
  | 0 => 8
  | n + 1 => 2 * bdE n + 8
theorem pk_pos (d : Nat) : 4 ≤ pk d := by cases d with | zero => exact Nat.le_refl _ | succ d => show 4 ≤ 2 * pk d + 4; omega
theorem bdE_pos (d : Nat) : 8 ≤ bdE d := by cases d with | zero => exact Nat.le_refl _ | succ d => show 8 ≤ 2 * bdE d + 8; omega
set_option maxHeartbeats 2000000 in
theorem l2Expr_low (d : Nat) (hd : d < 2) (R p b o cap : Nat) (ss : List ByteArray) (w : World) (h : Rd w R p) (hp : p ≤ 900000) (hn1 : 1 ≤ ss.length) (hn2 : ss.length ≤ 1000) (hs : ∀ s ∈ ss, s.size ≤ 8) (hN : NmS w R b o ss) :
    Calls Tryz.prog 85 #[.pointer (some ⟨R, 0, none⟩), .slice (some ⟨b, o, none⟩) ss.length cap, .int .i64 (d : Int)] w (DrRet R (p + pk d) (bdE d) w) := by
  have hlt := h.lt
  have hpk := pk_pos d
  have hbd := bdE_pos d
  have hb0 := (Below.refl w.heap.size w).alloc (Nat.le_refl _) (.cells #[.int .i64 0, .int .i64 0, .string ⟨#[]⟩, .slice none 0 0] 24)
  have D0 := Lib.hid (DrewT.below h hb0)
  have R0 := Lib.hid (Res.new w (.int .i64 0) (.int .i64 0) (.string ⟨#[]⟩) (.slice none 0 0) 24)
  have LF := Lib.hid (leaf_names R p b o cap ss _ (h.keep hb0) (by omega) hn1 hn2 hs (hN.touch (Touch.of_below hb0 hlt)))
  clear hN hs hb0 h
  go_enter Tryz.func85, Tryz.ntmps85
  go_wp2_with fail
  (with_reducible refine Calls.mono LF.out ?_)
  rintro ee w2 ⟨op, n, s, hs, rfl, hd2⟩
  have D2 := Lib.hid ((D0.out.trans hd2).more (show p + 2 ≤ p + pk d by omega))
  have R2 := R0.out.touch hd2.2 hlt
  obtain ⟨c0, c1, c2, c3⟩ := R2.c
  have f0 := R2.f 0
  have f1 := R2.f 1
  have f2 := R2.f 2
  have f3 := R2.f 3
  clear hd2 LF D0 R0 R2
  go_wp2_with fail
  refine bodyPost_ret (v := .agg #[.int .i64 op, .int .i64 n, .string s, .slice none 0 0]) (by simp [results, Tryz.results85, go_sem, c0, c1, c2, c3]) rfl ⟨.mk op n s [], none, 0, rfl, DrK.nil _ _, by show s.size + 0 ≤ _; omega, ?_⟩
  exact (((D2.out.set (Nat.le_refl _) hlt 0 _).set (Nat.le_refl _) hlt 1 _).set (Nat.le_refl _) hlt 2 _).set (Nat.le_refl _) hlt 3 _
set_option maxHeartbeats 4000000 in
theorem l2Expr_succ (d : Nat) (hd : d ≤ 10) (hd1 : 1 ≤ d) (R p b o cap : Nat) (ss : List ByteArray) (w : World) (h : Rd w R p) (hp : p + pk (d + 1) ≤ 900000) (hn1 : 1 ≤ ss.length) (hn2 : ss.length ≤ 1000) (hs : ∀ s ∈ ss, s.size ≤ 8) (hN : NmS w R b o ss)
    (ih : ∀ (p : Nat) (w : World), Rd w R p → p + pk d ≤ 900000 → NmS w R b o ss → Calls Tryz.prog 85 #[.pointer (some ⟨R, 0, none⟩), .slice (some ⟨b, o, none⟩) ss.length cap, .int .i64 (d : Int)] w (DrRet R (p + pk d) (bdE d) w)) :
    Calls Tryz.prog 85 #[.pointer (some ⟨R, 0, none⟩), .slice (some ⟨b, o, none⟩) ss.length cap, .int .i64 ((d : Int) + 1)] w (DrRet R (p + pk (d + 1)) (bdE (d + 1)) w) := by
  have hlt := h.lt
  have hpk : pk (d + 1) = 2 * pk d + 4 := rfl
  have hbd : bdE (d + 1) = 2 * bdE d + 8 := rfl
  generalize pk (d + 1) = pk1 at *
  generalize bdE (d + 1) = bd1 at *
  have hb0 := (Below.refl w.heap.size w).alloc (Nat.le_refl _) (.cells #[.int .i64 0, .int .i64 0, .string ⟨#[]⟩, .slice none 0 0] 24)
  have D0 := Lib.hid (DrewT.below h hb0)
  have R0 := Lib.hid (Res.new w (.int .i64 0) (.int .i64 0) (.string ⟨#[]⟩) (.slice none 0 0) 24)
  have N0 := Lib.hid (hN.touch (Touch.of_below hb0 hlt))
  have PK := Lib.hid (pick_t R p 4 _ (h.keep hb0) (by omega) (by omega) (by omega))
  have HS := Lib.hid hs
  have IH := Lib.hid ih
  have HPK := Lib.hid hpk
  have HBD := Lib.hid hbd
  have hpp : p + 2 * pk d + 4 ≤ 900000 := by omega
  clear hN hs hb0 h ih hpk hbd
  go_enter Tryz.func85, Tryz.ntmps85
  go_wp2_with fail
  refine Calls.mono PK.out ?_
  rintro ee w1 ⟨r, hr, rfl, hd1'⟩
  have D1 := Lib.hid (D0.out.trans hd1')
  have R1 := Lib.hid (R0.out.touch hd1'.2 hlt)
  have N1 := Lib.hid (N0.out.touch hd1'.2)
  obtain ⟨p1, hp1, hr1⟩ := hd1'.1
  clear hd1' D0 R0 N0 PK
  by_cases hz : r = 0
  · subst hz
    have LF := Lib.hid (leaf_names R p1 b o cap ss _ hr1 (by omega) hn1 hn2 HS.out N1.out)
    go_wp2_with fail
    (with_reducible refine Calls.mono LF.out ?_)
    rintro ee w2 ⟨op, n, s, hs, rfl, hd2⟩
    have D2 := Lib.hid ((D1.out.trans hd2).more (show p1 + 2 ≤ p + pk1 by have := HPK.out; omega))
    have R2 := R1.out.touch hd2.2 hlt
    obtain ⟨c0, c1, c2, c3⟩ := R2.c
    have f0 := R2.f 0
    have f1 := R2.f 1
    have f2 := R2.f 2
    have f3 := R2.f 3
    clear hd2 LF D1 R1 R2
    go_wp2_with fail
    refine bodyPost_ret (v := .agg #[.int .i64 op, .int .i64 n, .string s, .slice none 0 0]) (by simp [results, Tryz.results85, go_sem, c0, c1, c2, c3]) rfl ⟨.mk op n s [], none, 0, rfl, DrK.nil _ _, by show s.size + 0 ≤ _; have := HBD.out; omega, ?_⟩
    exact (((D2.out.set (Nat.le_refl _) hlt 0 _).set (Nat.le_refl _) hlt 1 _).set (Nat.le_refl _) hlt 2 _).set (Nat.le_refl _) hlt 3 _
  · have q1 : ((r : Int) == 0) = false := beq_no (by omega)
    have PK := Lib.hid (pick_t R p1 7 _ hr1 (by omega) (by omega) (by omega))
    go_wp2_with fail
    refine Calls.mono PK.out ?_
    rintro ee w2 ⟨r2, hr2, rfl, hd2'⟩
    have D2 := Lib.hid (D1.out.trans hd2')
    have R2 := Lib.hid (R1.out.touch hd2'.2 hlt)
    have N2 := Lib.hid (N1.out.touch hd2'.2)
    obtain ⟨p2, hp2, hr2'⟩ := hd2'.1
    clear hd2' D1 R1 N1 PK q1 hr1
    by_cases hz2 : r2 = 0
    · subst hz2
      have NM := Lib.hid (num_t R p2 [11, 12, 11] w2 3 (0, 0) hr2' (by omega) (by simp) (by simp))
      go_wp2_with fail
      refine Calls.mono NM.out ?_
      rintro ee w3 ⟨z, hzz, rfl, hd3'⟩
      have D3 := Lib.hid (D2.out.trans hd3')
      have R3 := Lib.hid (R2.out.touch hd3'.2 hlt)
      have N3 := N2.out.touch hd3'.2
      obtain ⟨p3, hp3, hr3⟩ := hd3'.1
      have I3 := Lib.hid (IH.out p3 w3 hr3 (by omega) N3)
      clear hd3' D2 R2 N2 NM N3 hr3
      go_wp2_with fail
      (with_reducible refine Calls.mono I3.out ?_)
      rintro ee w4 ⟨e1, A1, cc1, rfl, hk1, hbk1, hd4⟩
      unfold exV
      have hl3 := R3.out.lt
      have R4 := R3.out.touch hd4.2 hlt
      have KL := Lib.hid (DrK.lit [⟨e1, A1, cc1⟩] (w := w4) (lo := w3.heap.size) hd4.2.below.size (by simp) (fun k hk => by simp at hk; subst hk; exact hk1))
      have hb5 := (Below.refl w4.heap.size w4).alloc (Nat.le_refl _) (.cells #[.int .i64 e1.op, .int .i64 e1.n, .string e1.name, .slice A1 e1.kids.length cc1] 24)
      obtain ⟨p4, hp4, hr4⟩ := hd4.1
      have D5 := Lib.hid (((D3.out.trans hd4).trans (DrewT.below hr4 hb5)).more (show p4 ≤ p + pk1 by have := HPK.out; omega))
      have R5 := R4.touch (Touch.of_below hb5 hr4.lt) hlt
      obtain ⟨c0, c1, c2, c3⟩ := R5.c
      have f0 := R5.f 0
      have f1 := R5.f 1
      have f2 := R5.f 2
      have f3 := R5.f 3
      clear hd4 D3 R3 R4 R5 I3 hb5 hr4 hk1
      go_wp2_with fail
      refine bodyPost_ret (v := .agg #[.int .i64 z, .int .i64 0, .string ⟨#[]⟩, .slice (some ⟨w4.heap.size, 0, none⟩) 1 1]) (by simp [results, Tryz.results85, go_sem, c0, c1, c2, c3]) rfl ⟨.mk z 0 ⟨#[]⟩ [e1], some ⟨w4.heap.size, 0, none⟩, 1, rfl, ?_, by show 0 + (1 + bulkE e1 + 0) ≤ _; have := HBD.out; omega, ?_⟩
      · exact (((((KL.out.set hl3 0 _).set hl3 1 _).set hl3 2 _).set hl3 3 _)).wide (Nat.le_of_lt hl3)
      · exact (((D5.out.set (Nat.le_refl _) hlt 0 _).set (Nat.le_refl _) hlt 1 _).set (Nat.le_refl _) hlt 2 _).set (Nat.le_refl _) hlt 3 _
    · have q2 : ((r2 : Int) == 0) = false := beq_no (by omega)
      have NM := Lib.hid (num_t R p2 [3, 3, 4, 5, 6, 7, 8, 9, 10] w2 3 (0, 0) hr2' (by omega) (by simp) (by simp))
      go_wp2_with fail
      refine Calls.mono NM.out ?_
      rintro ee w3 ⟨z, hzz, rfl, hd3'⟩
      have D3 := Lib.hid (D2.out.trans hd3')
      have R3 := Lib.hid (R2.out.touch hd3'.2 hlt)
      have N3 := Lib.hid (N2.out.touch hd3'.2)
      obtain ⟨p3, hp3, hr3⟩ := hd3'.1
      have I3 := Lib.hid (IH.out p3 w3 hr3 (by omega) N3.out)
      have hl3 := R3.out.lt
      clear hd3' D2 R2 N2 NM hr3 q2
      go_wp2_with fail
      (with_reducible refine Calls.mono I3.out ?_)
      rintro ee w4 ⟨e1, A1, cc1, rfl, hk1, hbk1, hd4⟩
      unfold exV
      have D4 := Lib.hid (D3.out.trans hd4)
      have R4 := Lib.hid (R3.out.touch hd4.2 hlt)
      have N4 := N3.out.touch hd4.2
      obtain ⟨p4, hp4, hr4⟩ := hd4.1
      have I4 := Lib.hid (IH.out p4 w4 hr4 (by omega) N4)
      have hs34 := hd4.2.below.size
      have HK1 := Lib.hid hk1
      clear hd4 D3 R3 N3 I3 N4 hr4 hk1
      go_wp2_with fail
      (with_reducible refine Calls.mono I4.out ?_)
      rintro ee w5 ⟨e2, A2, cc2, rfl, hk2, hbk2, hd5⟩
      unfold exV
      have hRl : R < w3.heap.size := Nat.lt_trans hlt hl3
      have KL := Lib.hid (DrK.lit [⟨e1, A1, cc1⟩, ⟨e2, A2, cc2⟩] (w := w5) (lo := w3.heap.size) (Nat.le_trans hs34 hd5.2.below.size) (by simp) (fun k hk => by
        simp at hk
        rcases hk with rfl | rfl
        · exact HK1.out.touch hd5.2 hRl
        · exact hk2.wide hs34))
      have hb6 := (Below.refl w5.heap.size w5).alloc (Nat.le_refl _) (.cells #[.int .i64 e1.op, .int .i64 e1.n, .string e1.name, .slice A1 e1.kids.length cc1, .int .i64 e2.op, .int .i64 e2.n, .string e2.name, .slice A2 e2.kids.length cc2] 24)
      obtain ⟨p5, hp5, hr5⟩ := hd5.1
      have D6 := Lib.hid (((D4.out.trans hd5).trans (DrewT.below hr5 hb6)).more (show p5 ≤ p + pk1 by have := HPK.out; omega))
      have R6 := (R4.out.touch hd5.2 hlt).touch (Touch.of_below hb6 hr5.lt) hlt
      obtain ⟨c0, c1, c2, c3⟩ := R6.c
      have f0 := R6.f 0
      have f1 := R6.f 1
      have f2 := R6.f 2
      have f3 := R6.f 3
      clear hd5 D4 R4 R6 I4 hb6 hr5 hk2 HK1
      go_wp2_with fail
      refine bodyPost_ret (v := .agg #[.int .i64 z, .int .i64 0, .string ⟨#[]⟩, .slice (some ⟨w5.heap.size, 0, none⟩) 2 2]) (by simp [results, Tryz.results85, go_sem, c0, c1, c2, c3]) rfl ⟨.mk z 0 ⟨#[]⟩ [e1, e2], some ⟨w5.heap.size, 0, none⟩, 2, rfl, ?_, by show 0 + (1 + bulkE e1 + (1 + bulkE e2 + 0)) ≤ _; have := HBD.out; omega, ?_⟩
      · exact (((((KL.out.set hl3 0 _).set hl3 1 _).set hl3 2 _).set hl3 3 _)).wide (Nat.le_of_lt hl3)
      · exact (((D6.out.set (Nat.le_refl _) hlt 0 _).set (Nat.le_refl _) hlt 1 _).set (Nat.le_refl _) hlt 2 _).set (Nat.le_refl _) hlt 3 _
theorem l2Expr_any (R b o cap : Nat) (ss : List ByteArray) (hn1 : 1 ≤ ss.length) (hn2 : ss.length ≤ 1000) (hs : ∀ s ∈ ss, s.size ≤ 8) : ∀ (d : Nat) (_ : d ≤ 10) (p : Nat) (w : World), Rd w R p → p + pk d ≤ 900000 → NmS w R b o ss →
    Calls Tryz.prog 85 #[.pointer (some ⟨R, 0, none⟩), .slice (some ⟨b, o, none⟩) ss.length cap, .int .i64 (d : Int)] w (DrRet R (p + pk d) (bdE d) w)
  | 0, _, p, w, h, hp, hN => l2Expr_low 0 (by omega) R p b o cap ss w h (by omega) hn1 hn2 hs hN
  | 1, _, p, w, h, hp, hN => l2Expr_low 1 (by omega) R p b o cap ss w h (by omega) hn1 hn2 hs hN
  | d + 2, hd, p, w, h, hp, hN => by
    rw [show ((d + 2 : Nat) : Int) = ((d + 1 : Nat) : Int) + 1 by omega]
    exact l2Expr_succ (d + 1) (by omega) (by omega) R p b o cap ss w h hp hn1 hn2 hs hN (fun p w h1 h2 h3 => l2Expr_any R b o cap ss hn1 hn2 hs (d + 1) (by omega) p w h1 h2 h3)
end Go.Proofs.YtkhcfhhejmkikaaGreatDoor
