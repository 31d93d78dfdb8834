/-
  Drawing, with what stays as it was: one block turns, and new ones are there.
-/
import Derived.Test.YtkhcfhhejmkikaaGreatDoorMg4
import Derived.Test.YtkhcfhhejmkikaaGreatDoorMg8
import Derived.Test.YtkhcfhhejmkikaaGreatDoorMg9
import Derived.OneCell
namespace Go.Proofs.YtkhcfhhejmkikaaGreatDoor
open Go.RowKit
set_option maxRecDepth 100000

/-- A number, and new blocks at most. -/
def NumBelow (n : Nat) (w : World) (e : Ending) (w' : World) : Prop := e = .returned (.int .i64 (n : Int)) ∧ Below w.heap.size w w'
set_option maxHeartbeats 1000000 in
theorem l2Parts_step (e : E) (A : Option Addr) (cap : Nat) (w : World) (hR : RdS w w.heap.size e.kids A) (hl : sizeE e ≤ 2000000)
    (ih : ∀ (k : E) (_ : sizeE k < sizeE e) (A : Option Addr) (cap : Nat) (w : World), RdS w w.heap.size k.kids A → Calls Tryz.prog 40 #[exV k A cap] w (NumBelow (sizeE k) w)) :
    Calls Tryz.prog 40 #[exV e A cap] w (NumBelow (sizeE e) w) := by
  unfold exV at ih ⊢
  have IH := Lib.hid ih
  have HR := Lib.hid hR
  clear ih hR
  have hsz := sizeE_kids e
  obtain ⟨op, n, s, ks⟩ := e
  dsimp only [E.op, E.n, E.name, E.kids] at *
  have HS := Lib.hid hsz
  have hll := length_le_sizeL ks
  have hln : sizeL ks ≤ 2000000 := by omega
  clear hsz hl
  obtain ⟨c0, c1, c2, c3, hlt, hb⟩ := box_cells w (.int .i64 op) (.int .i64 n) (.string s) (.slice A ks.length cap) 24
  clear c0 c1 c2
  go_enter Tryz.func40, Tryz.ntmps40
  go_wp2
  generalize w.alloc (.cells #[.int .i64 op, .int .i64 n, .string s, .slice A ks.length cap] 24) = wa at *
  go_loopw [3, 4] (fun m i wr => ∃ k : Nat, k ≤ ks.length ∧ i = .int .i64 k ∧ m = .int .i64 ((1 + sizeL (ks.take k) : Nat) : Int) ∧ Below wa.heap.size wa wr) (fun _ i _ => ks.length - (intOf i).toNat)
  case atStart => exact ⟨0, Nat.zero_le _, rfl, rfl, Below.refl _ _⟩
  case round =>
    obtain ⟨k, hk, rfl, rfl, hbr⟩ := hrel
    have g3 := (hbr.cell (p := ⟨w.heap.size, 3, none⟩) hlt).trans c3
    have hbw := hb.trans (hbr.mono (Nat.le_of_lt hlt))
    have hbs := hbw.size
    have htk := sizeL_take_le ks k
    by_cases hlk : k < ks.length
    · have HT := Lib.hid (sizeL_take hlk)
      have hsk := sizeL_get hlk
      obtain ⟨b, o, rfl, hB, ⟨d0, d1, d2⟩, A', cap', d3, hr'⟩ := (HR.out.below hbw).at_ hlk
      have hlt2 : sizeE ks[k] < sizeE (E.mk op n s ks) := by rw [HS.out]; omega
      have htk1 := sizeL_take_le ks (k + 1)
      have hd : sizeL (ks.take k) + sizeE ks[k] ≤ 2000000 := by rw [← HT.out]; omega
      generalize hkd : ks[k] = kid at *
      have HK := Lib.hid hkd
      clear hkd htk1
      obtain ⟨op', n', s', ks'⟩ := kid
      dsimp only [E.op, E.n, E.name, E.kids] at d0 d1 d2 d3 hr'
      have IHK := Lib.hid (IH.out (E.mk op' n' s' ks') hlt2 A' cap' _ (hr'.more hbs))
      clear hr' hlt2
      dsimp only [E.op, E.n, E.name, E.kids] at IHK
      generalize sizeE (E.mk op' n' s' ks') = sk at *
      generalize hst : sizeL (ks.take k) = st at *
      go_wp2_with ((go_at_call 40; (with_reducible refine Calls.mono IHK.out ?_); rintro ee w2 ⟨rfl, hb2⟩; have hb3 := hbr.trans (hb2.mono hbr.size)))
      go_roundw
      case rel => exact ⟨k + 1, by omega, by go_num, by rw [HT.out]; go_num, hb3⟩
      case measure => simp only [intOf]; omega
    · obtain rfl : k = ks.length := by omega
      go_wp2
      go_ret
      exact ⟨by rw [HS.out, List.take_length]; rfl, hbw⟩
theorem l2Parts_any : ∀ (N : Nat) (e : E) (_ : sizeE e ≤ N) (A : Option Addr) (cap : Nat) (w : World), RdS w w.heap.size e.kids A → N ≤ 2000000 → Calls Tryz.prog 40 #[exV e A cap] w (NumBelow (sizeE e) w)
  | 0, e, h, _, _, _, _, _ => by have := sizeE_pos e; omega
  | N + 1, e, h, A, cap, w, hR, hN => l2Parts_step e A cap w hR (by omega) (fun k hk A cap w hr => l2Parts_any N k (by omega) A cap w hr (by omega))

/-- A cell of the call's own that holds a number. -/
def OneAt (w : World) (g : Nat) (n : Nat) : Prop := w.heap[g]? = some (.cells #[.int .i64 (n : Int)] 3 (0, 0))
theorem OneAt.lt {w : World} {g n : Nat} (h : OneAt w g n) : g < w.heap.size := lt_of_block h
theorem OneAt.alloc {w : World} {g n : Nat} (h : OneAt w g n) (o : Obj) : OneAt (w.alloc o) g n := by
  unfold OneAt at h ⊢
  rw [heap_alloc_old w o (lt_of_block h)]; exact h
theorem OneAt.set {w : World} {g n : Nat} (h : OneAt w g n) (m : Nat) : OneAt (w.setCell ⟨g, 0, none⟩ (.int .i64 (m : Int))) g m := one_setCell h
/-- What counting leaves: one more for each part. -/
def CountRet (g n m : Nat) (w : World) (e : Ending) (w' : World) : Prop := e = .returned (.tuple #[]) ∧ OneAt w' g (n + m) ∧ Touch g w w'
def countF (g : Nat) : Value := .func (.func 82) #[] #[.pointer (some ⟨g, 0, none⟩)]
set_option maxHeartbeats 1000000 in
theorem countOne_any (g n : Nat) (v0 v1 v2 v3 : Value) (w : World) (h : OneAt w g n) (hn : n ≤ 2000000) :
    Calls Tryz.prog 82 #[.agg #[v0, v1, v2, v3], .pointer (some ⟨g, 0, none⟩)] w (CountRet g n 1 w) :=
  (countOne g n v0 v1 v2 v3 w (cell_of_one h) (free_of_one h) (by omega) (by omega) h.lt).mono fun e w' ⟨he, hw⟩ => by
    subst hw
    have hc : ((n : Int) + 1) = ((n + 1 : Nat) : Int) := by omega
    rw [hc]
    have hb1 := (Below.refl g w).setCell (p := ⟨g, 0, none⟩) (Nat.le_refl _) (.int .i64 ((n + 1 : Nat) : Int))
    refine ⟨he, (h.set (n + 1)).alloc _, hb1.alloc (Nat.le_trans (Nat.le_of_lt h.lt) hb1.size) _, fun k h1 h2 => ?_⟩
    rw [heap_alloc_old _ _ (Nat.lt_of_lt_of_le h2 hb1.size)]
    show (w.heap.modify g _)[k]? = _
    rw [Array.getElem?_modify]
    rw [if_neg (by omega)]
set_option maxHeartbeats 2000000 in
theorem eachPart_step (g n : Nat) (e : E) (A : Option Addr) (cap : Nat) (w : World) (hR : RdS w g e.kids A) (h1 : OneAt w g n) (hl : n + sizeE e ≤ 2000000)
    (ih : ∀ (k : E) (_ : sizeE k < sizeE e) (n : Nat) (A : Option Addr) (cap : Nat) (w : World), RdS w g k.kids A → OneAt w g n → n + sizeE k ≤ 2000000 → Calls Tryz.prog 81 #[exV k A cap, countF g] w (CountRet g n (sizeE k) w)) :
    Calls Tryz.prog 81 #[exV e A cap, countF g] w (CountRet g n (sizeE e) w) := by
  unfold exV countF at ih ⊢
  have IH := Lib.hid ih
  have HR := Lib.hid hR
  clear ih hR
  have hsz := sizeE_kids e
  obtain ⟨op, nn, s, ks⟩ := e
  dsimp only [E.op, E.n, E.name, E.kids] at *
  have HS := Lib.hid hsz
  have hll := length_le_sizeL ks
  have hln : n + (1 + sizeL ks) ≤ 2000000 := by omega
  clear hsz hl
  obtain ⟨c0, c1, c2, c3, hlt, hb⟩ := box_cells w (.int .i64 op) (.int .i64 nn) (.string s) (.slice A ks.length cap) 24
  have hgl := h1.lt
  have H1 := Lib.hid (h1.alloc (.cells #[.int .i64 op, .int .i64 nn, .string s, .slice A ks.length cap] 24))
  clear h1
  go_enter Tryz.func81, Tryz.ntmps81
  go_wp2_with fail
  generalize w.alloc (.cells #[.int .i64 op, .int .i64 nn, .string s, .slice A ks.length cap] 24) = wa at *
  go_at_call 82
  refine Calls.mono (countOne_any g n _ _ _ _ wa H1.out (by omega)) ?_
  rintro ee w1 ⟨rfl, h1, hb1⟩
  have d3 := (hb1.cell (k := w.heap.size) (o := 3) (by omega) hlt).trans c3
  have hbq : Touch g w w1 := (Touch.of_below hb hgl).trans hb1
  go_wp2
  go_loopw [12] (fun i wr => ∃ k : Nat, k ≤ ks.length ∧ i = .int .i64 k ∧ OneAt wr g (n + 1 + sizeL (ks.take k)) ∧ Touch g w wr) (fun i _ => ks.length - (intOf i).toNat)
  case atStart => exact ⟨0, Nat.zero_le _, rfl, h1, hbq⟩
  case round =>
    clear d3 hbq h1 hb1
    obtain ⟨k, hk, rfl, hone, hbr⟩ := hrel
    have hbw := hbr.below
    have hbs := hbw.size
    have htk := sizeL_take_le ks k
    by_cases hlk : k < ks.length
    · have HT := Lib.hid (sizeL_take hlk)
      have hsk := sizeL_get hlk
      obtain ⟨b, o, rfl, hB, ⟨d0, d1, d2⟩, A', cap', d3, hr'⟩ := (HR.out.below hbw).at_ hlk
      have hlt2 : sizeE ks[k] < sizeE (E.mk op nn s ks) := by rw [HS.out]; omega
      have htk1 := sizeL_take_le ks (k + 1)
      have hd : n + 1 + sizeL (ks.take k) + sizeE ks[k] ≤ 2000000 := by have := HT.out; omega
      generalize hkd : ks[k] = kid at *
      have HK := Lib.hid hkd
      clear hkd htk1
      obtain ⟨op', n', s', ks'⟩ := kid
      dsimp only [E.op, E.n, E.name, E.kids] at d0 d1 d2 d3 hr'
      have hal := (Below.refl wr.heap.size wr).alloc (Nat.le_refl _) (.cells #[.int .i64 op', .int .i64 n', .string s', .slice A' ks'.length cap'] 24)
      have hal2 : Touch g wr _ := Touch.of_below hal hone.lt
      have IHK := Lib.hid (IH.out (E.mk op' n' s' ks') hlt2 _ A' cap' _ (hr'.below (hal.mono (Nat.le_of_lt hone.lt))) (hone.alloc (.cells #[.int .i64 op', .int .i64 n', .string s', .slice A' ks'.length cap'] 24)) hd)
      clear hr' hlt2 hone
      dsimp only [E.op, E.n, E.name, E.kids] at IHK
      generalize sizeE (E.mk op' n' s' ks') = sk at *
      generalize hst : sizeL (ks.take k) = st at *
      go_wp2_with ((go_at_call 81; (with_reducible refine Calls.mono IHK.out ?_); rintro ee w2 ⟨rfl, ho2, hb2⟩; have hb3 := (hbr.trans hal2).trans hb2; have HO2 := Lib.hid ho2; clear ho2 hb2 hal hal2))
      go_roundw
      case rel => exact ⟨k + 1, by omega, by go_num, by rw [HT.out, ← Nat.add_assoc]; exact HO2.out, hb3⟩
      case measure => simp only [intOf]; omega
    · obtain rfl : k = ks.length := by omega
      have HO := Lib.hid hone
      clear hone
      go_wp2
      go_end0
      refine ⟨rfl, ?_, hbr⟩
      have := HO.out
      rw [List.take_length] at this
      rw [HS.out, ← Nat.add_assoc]
      exact this
theorem eachPart_count : ∀ (N : Nat) (g n : Nat) (e : E) (_ : sizeE e ≤ N) (A : Option Addr) (cap : Nat) (w : World), RdS w g e.kids A → OneAt w g n → n + sizeE e ≤ 2000000 → Calls Tryz.prog 81 #[exV e A cap, countF g] w (CountRet g n (sizeE e) w)
  | 0, _, _, e, h, _, _, _, _, _, _ => by have := sizeE_pos e; omega
  | N + 1, g, n, e, h, A, cap, w, hR, h1, hl => eachPart_step g n e A cap w hR h1 hl (fun k hk n A cap w hr h1 hl => eachPart_count N g n k (by omega) A cap w hr h1 hl)
set_option maxHeartbeats 1000000 in
theorem countParts_any (e : E) (A : Option Addr) (cap : Nat) (w : World) (hR : RdS w w.heap.size e.kids A) (hl : sizeE e ≤ 2000000) :
    Calls Tryz.prog 45 #[exV e A cap] w (NumBelow (sizeE e) w) := by
  obtain ⟨c0, c1, c2, c3, hlt, hb⟩ := box_cells w (.int .i64 e.op) (.int .i64 e.n) (.string e.name) (.slice A e.kids.length cap) 24
  have EP := fun W (h : Below w.heap.size w W) (g : Nat) (hg : w.heap.size ≤ g) (h1 : OneAt W g 0) => Lib.hid (eachPart_count _ g 0 e (Nat.le_refl _) A cap W ((hR.below h).more hg) h1 (by omega))
  unfold exV countF at EP
  unfold exV
  generalize sizeE e = sz at *
  have hone : OneAt ((w.alloc (.cells #[.int .i64 e.op, .int .i64 e.n, .string e.name, .slice A e.kids.length cap] 24)).alloc (.cells #[.int .i64 0] 3)) (w.alloc (.cells #[.int .i64 e.op, .int .i64 e.n, .string e.name, .slice A e.kids.length cap] 24)).heap.size 0 := heap_alloc_new _ _
  have hb1 := hb.alloc (Nat.le_of_lt hlt) (.cells #[.int .i64 0] 3)
  have EP1 := Lib.hid (EP _ hb1 _ (Nat.le_of_lt hlt) hone).out
  rw [World.size_alloc] at EP1
  have hx : w.heap.size ≤ w.heap.size + 1 := by omega
  clear EP hR hone
  go_enter Tryz.func45, Tryz.ntmps45
  go_wp2_with fail
  (with_reducible refine Calls.mono EP1.out ?_)
  rintro ee w1 ⟨rfl, h1, hb2⟩
  have hc := cell_of_one h1
  rw [Nat.zero_add] at hc
  have hb3 := hb1.trans (hb2.below.mono hx)
  go_wp2
  go_ret
  exact ⟨rfl, hb3⟩
set_option maxHeartbeats 1000000 in
theorem specExprValid_any (e : E) (A : Option Addr) (cap : Nat) (w : World) (hR : RdS w w.heap.size e.kids A) (hl : bulkE e ≤ 1048576) :
    Calls Tryz.prog 17 #[exV e A cap] w (BoolB (validE e) w) := by
  have hsb := sizeE_bulk e
  obtain ⟨c0, c1, c2, c3, hlt, hb⟩ := box_cells w (.int .i64 e.op) (.int .i64 e.n) (.string e.name) (.slice A e.kids.length cap) 24
  have hr1 := (hR.below hb).more hb.size
  have CF := l2Form_any 6 (by omega) e A cap _ hr1 (by omega)
  have CP := fun W (h : Below w.heap.size w W) => Lib.hid (l2Parts_any _ e (Nat.le_refl _) A cap W ((hR.below h).more h.size) (by omega))
  have HV := Lib.hid (show validE e = (formE 6 e && decide (sizeE e ≤ 30)) from rfl)
  unfold exV at CF CP ⊢
  clear hR hr1
  generalize validE e = vv at *
  cases hf : formE 6 e
  · rw [hf] at CF
    have HF := Lib.hid hf
    clear hf CP
    replace CF := Lib.hid CF
    go_enter Tryz.func17, Tryz.ntmps17
    go_wp2_with ((go_at_call 39; (with_reducible refine Calls.mono CF.out ?_); rintro ee w1 ⟨rfl, hb1⟩; have hb2 := hb.trans (hb1.mono (Nat.le_of_lt hlt))))
    go_ret
    exact ⟨ret_bool (by rw [HV.out, HF.out]; rfl), hb2⟩
  · rw [hf] at CF
    have HF := Lib.hid hf
    clear hf
    replace CF := Lib.hid CF
    generalize sizeE e = sz at *
    go_enter Tryz.func17, Tryz.ntmps17
    go_wp2_with fail
    (with_reducible refine Calls.mono CF.out ?_)
    rintro ee w1 ⟨rfl, hb1⟩
    have k0 := (hb1.cell (p := ⟨w.heap.size, 0, none⟩) hlt).trans c0
    have k1 := (hb1.cell (p := ⟨w.heap.size, 1, none⟩) hlt).trans c1
    have k2 := (hb1.cell (p := ⟨w.heap.size, 2, none⟩) hlt).trans c2
    have k3 := (hb1.cell (p := ⟨w.heap.size, 3, none⟩) hlt).trans c3
    have hb2 := hb.trans (hb1.mono (Nat.le_of_lt hlt))
    have CP1 := Lib.hid (CP _ hb2).out
    clear CP CF hb hb1
    go_wp2_with fail
    (with_reducible refine Calls.mono CP1.out ?_)
    rintro ee w3 ⟨rfl, hb4⟩
    have hb5 := hb2.trans (hb4.mono hb2.size)
    go_wp2
    go_ret
    exact ⟨ret_bool (by rw [HV.out, HF.out, Bool.true_and, Bool.eq_iff_iff]; simp <;> omega), hb5⟩
set_option maxHeartbeats 1000000 in
theorem implExprValid_any (e : E) (A : Option Addr) (cap : Nat) (w : World) (hR : RdS w w.heap.size e.kids A) (hl : bulkE e ≤ 1048576) (T : Tabs w) (G : Sgn w) :
    Calls Tryz.prog 20 #[exV e A cap] w (BoolB (validE e) w) := by
  have hsb := sizeE_bulk e
  obtain ⟨c0, c1, c2, c3, hlt, hb⟩ := box_cells w (.int .i64 e.op) (.int .i64 e.n) (.string e.name) (.slice A e.kids.length cap) 24
  have hr1 := (hR.below hb).more hb.size
  have CF := fitsWithin_any 6 (by omega) e A cap _ hr1 (T.below hb) (G.below hb) (by omega)
  have CP := fun W (h : Below w.heap.size w W) => Lib.hid (countParts_any e A cap W ((hR.below h).more h.size) (by omega))
  have HV := Lib.hid (show validE e = (formE 6 e && decide (sizeE e ≤ 30)) from rfl)
  unfold exV at CF CP ⊢
  clear hR hr1
  generalize validE e = vv at *
  cases hf : formE 6 e
  · rw [hf] at CF
    have HF := Lib.hid hf
    clear hf CP
    replace CF := Lib.hid CF
    go_enter Tryz.func20, Tryz.ntmps20
    go_wp2_with ((go_at_call 44; (with_reducible refine Calls.mono CF.out ?_); rintro ee w1 ⟨rfl, hb1⟩; have hb2 := hb.trans (hb1.mono (Nat.le_of_lt hlt))))
    go_ret
    exact ⟨ret_bool (by rw [HV.out, HF.out]; rfl), hb2⟩
  · rw [hf] at CF
    have HF := Lib.hid hf
    clear hf
    replace CF := Lib.hid CF
    generalize sizeE e = sz at *
    go_enter Tryz.func20, Tryz.ntmps20
    go_wp2_with fail
    (with_reducible refine Calls.mono CF.out ?_)
    rintro ee w1 ⟨rfl, hb1⟩
    have k0 := (hb1.cell (p := ⟨w.heap.size, 0, none⟩) hlt).trans c0
    have k1 := (hb1.cell (p := ⟨w.heap.size, 1, none⟩) hlt).trans c1
    have k2 := (hb1.cell (p := ⟨w.heap.size, 2, none⟩) hlt).trans c2
    have k3 := (hb1.cell (p := ⟨w.heap.size, 3, none⟩) hlt).trans c3
    have hb2 := hb.trans (hb1.mono (Nat.le_of_lt hlt))
    have CP1 := Lib.hid (CP _ hb2).out
    clear CP CF hb hb1
    go_wp2_with fail
    (with_reducible refine Calls.mono CP1.out ?_)
    rintro ee w3 ⟨rfl, hb4⟩
    have hb5 := hb2.trans (hb4.mono hb2.size)
    go_wp2
    go_ret
    exact ⟨ret_bool (by rw [HV.out, HF.out, Bool.true_and, Bool.eq_iff_iff]; simp <;> omega), hb5⟩
end Go.Proofs.YtkhcfhhejmkikaaGreatDoor

namespace Go.Proofs.YtkhcfhhejmkikaaGreatDoor
open Go.RowKit
set_option maxRecDepth 100000

/-- What a drawer leaves: a reader that has gone on by so much, and nothing else below it turned. -/
def Drew (R p : Nat) (w w' : World) : Prop := (∃ p', p' ≤ p ∧ Rd w' R p') ∧ Below R w w'
theorem below_pickW {R p q : Nat} (w : World) : Below R w (pickW w R p q) := below_drewN ((Below.refl R w).setCell (Nat.le_refl _) _) q
theorem pickW_cell {R p q : Nat} (w : World) {a : Addr} (h : a.block ≠ R) : (pickW w R p q).cell? a = w.cell? a := by
  apply World.cell?_of_block
  exact Below.heap_setCell w ⟨R, 1, none⟩ _ a.block h

set_option maxHeartbeats 1000000 in
theorem of_any (R p : Nat) (b o cap : Nat) (ss : List ByteArray) (w : World) (h : Rd w R p) (hp : p ≤ 1000000) (hn1 : 1 ≤ ss.length) (hn2 : ss.length ≤ 1000)
    (hbR : b ≠ R) (hc : ∀ k, (h : k < ss.length) → w.cell? ⟨b, o + k, none⟩ = some (.string ss[k])) :
    Calls Tryz.prog 50 #[.pointer (some ⟨R, 0, none⟩), .slice (some ⟨b, o, none⟩) ss.length cap] w fun e w' => ∃ s, s ∈ ss ∧ e = .returned (.string s) ∧ ∃ q, w' = pickW w R p q := by
  have PK := Lib.hid (pick_any R p ss.length w h hp hn1 hn2)
  have HC := Lib.hid hc
  clear hc h
  go_enter Tryz.func50, Tryz.ntmps50
  go_wp2_with fail
  refine PK.out.mono ?_
  rintro e w1 ⟨r, hr, rfl, q, hw1⟩
  have hc1 : w1.cell? ⟨b, o + r, none⟩ = some (.string ss[r]) := by rw [hw1]; exact (pickW_cell w hbR).trans (HC.out r hr)
  have hm : ss[r] ∈ ss := List.getElem_mem hr
  generalize ss[r] = s at *
  replace hw1 := Lib.hid hw1
  go_wp2
  go_ret
  exact ⟨s, hm, rfl, q, hw1.out⟩

set_option maxHeartbeats 1000000 in
theorem num_any (R p : Nat) (b o cap : Nat) (ss : List Int) (w : World) (h : Rd w R p) (hp : p ≤ 1000000) (hn1 : 1 ≤ ss.length) (hn2 : ss.length ≤ 1000)
    (hbR : b ≠ R) (hc : ∀ k, (h : k < ss.length) → w.cell? ⟨b, o + k, none⟩ = some (.int .i64 ss[k])) :
    Calls Tryz.prog 49 #[.pointer (some ⟨R, 0, none⟩), .slice (some ⟨b, o, none⟩) ss.length cap] w fun e w' => ∃ s, s ∈ ss ∧ e = .returned (.int .i64 s) ∧ ∃ q, w' = pickW w R p q := by
  have PK := Lib.hid (pick_any R p ss.length w h hp hn1 hn2)
  have HC := Lib.hid hc
  clear hc h
  go_enter Tryz.func49, Tryz.ntmps49
  go_wp2_with fail
  refine PK.out.mono ?_
  rintro e w1 ⟨r, hr, rfl, q, hw1⟩
  have hc1 : w1.cell? ⟨b, o + r, none⟩ = some (.int .i64 ss[r]) := by rw [hw1]; exact (pickW_cell w hbR).trans (HC.out r hr)
  have hm : ss[r] ∈ ss := List.getElem_mem hr
  generalize ss[r] = s at *
  replace hw1 := Lib.hid hw1
  go_wp2
  go_ret
  exact ⟨s, hm, rfl, q, hw1.out⟩

theorem lit_cell (w : World) (vs : List Value) (t : TypeId) (fr : Nat × Nat) (k : Nat) (v : Value) (h : vs[k]? = some v) : (w.alloc (.cells vs.toArray t fr)).cell? ⟨w.heap.size, 0 + k, none⟩ = some v := by
  have e : (w.alloc (.cells vs.toArray t fr)).heap[w.heap.size]? = some (.cells vs.toArray t fr) := by
    show (w.heap.push _)[w.heap.size]? = _
    simp
  unfold World.cell?
  rw [e]
  show vs.toArray[0 + k]? = some v
  simpa using h

/-- of, upon a list that is written out. -/
theorem of_lit (R p : Nat) (ss : List ByteArray) (w : World) (t : TypeId) (fr : Nat × Nat) (h : Rd w R p) (hp : p ≤ 1000000) (hn1 : 1 ≤ ss.length) (hn2 : ss.length ≤ 1000) :
    Calls Tryz.prog 50 #[.pointer (some ⟨R, 0, none⟩), .slice (some ⟨w.heap.size, 0, none⟩) ss.length ss.length] (w.alloc (.cells (ss.map Value.string).toArray t fr)) fun e w' => ∃ s, s ∈ ss ∧ e = .returned (.string s) ∧ Drew R (p + 1) w w' := by
  have hlt := h.lt
  have hb : Below w.heap.size w (w.alloc (.cells (ss.map Value.string).toArray t fr)) := (Below.refl _ _).alloc (Nat.le_refl _) _
  refine (of_any R p w.heap.size 0 ss.length ss _ (h.keep hb) hp hn1 hn2 (by omega) ?_).mono ?_
  · intro k hk
    exact lit_cell w _ t fr k _ (by simp [hk])
  · rintro e w' ⟨s, hs, rfl, q, rfl⟩
    exact ⟨s, hs, rfl, ⟨p + 1, Nat.le_refl _, (h.keep hb).pick q⟩, (hb.mono (Nat.le_of_lt hlt)).trans (below_pickW _)⟩
theorem num_lit (R p : Nat) (ss : List Int) (w : World) (t : TypeId) (fr : Nat × Nat) (h : Rd w R p) (hp : p ≤ 1000000) (hn1 : 1 ≤ ss.length) (hn2 : ss.length ≤ 1000) :
    Calls Tryz.prog 49 #[.pointer (some ⟨R, 0, none⟩), .slice (some ⟨w.heap.size, 0, none⟩) ss.length ss.length] (w.alloc (.cells (ss.map (Value.int .i64)).toArray t fr)) fun e w' => ∃ s, s ∈ ss ∧ e = .returned (.int .i64 s) ∧ Drew R (p + 1) w w' := by
  have hlt := h.lt
  have hb : Below w.heap.size w (w.alloc (.cells (ss.map (Value.int .i64)).toArray t fr)) := (Below.refl _ _).alloc (Nat.le_refl _) _
  refine (num_any R p w.heap.size 0 ss.length ss _ (h.keep hb) hp hn1 hn2 (by omega) ?_).mono ?_
  · intro k hk
    exact lit_cell w _ t fr k _ (by simp [hk])
  · rintro e w' ⟨s, hs, rfl, q, rfl⟩
    exact ⟨s, hs, rfl, ⟨p + 1, Nat.le_refl _, (h.keep hb).pick q⟩, (hb.mono (Nat.le_of_lt hlt)).trans (below_pickW _)⟩
theorem Drew.trans {R p p' : Nat} {a b c : World} (h : Drew R p a b) (k : Drew R p' b c) : Drew R p' a c := ⟨k.1, h.2.trans k.2⟩
theorem pick_drew (R p n : Nat) (w : World) (h : Rd w R p) (hp : p ≤ 1000000) (hn1 : 1 ≤ n) (hn2 : n ≤ 1000) :
    Calls Tryz.prog 46 #[.pointer (some ⟨R, 0, none⟩), .int .i64 (n : Int)] w fun e w' => ∃ r : Nat, r < n ∧ e = .returned (.int .i64 (r : Int)) ∧ Drew R (p + 1) w w' := by
  refine (pick_any R p n w h hp hn1 hn2).mono ?_
  rintro e w' ⟨r, hr, rfl, q, rfl⟩
  exact ⟨r, hr, rfl, ⟨p + 1, Nat.le_refl _, h.pick q⟩, below_pickW _⟩

set_option maxHeartbeats 1000000 in
theorem l30Open_any (A : Option Addr) (l : List UInt8) (cap : Nat) (w : World) (h : Bytes w w.heap.size A l) (hn : l.length ≤ cap) (hcap : cap ≤ 9223372036854775807) :
    Calls Tryz.prog 35 #[.slice A l.length cap] w fun e w' => e = .returned (.pointer (some ⟨w.heap.size, 0, none⟩)) ∧ Rd w' w.heap.size 0 ∧ Below w.heap.size w w' := by
  have key : ∀ (l' : List UInt8) (cap' : Nat), l'.length ≤ 2000 → Bytes w w.heap.size A l' → Rd (w.alloc (.cells #[.slice A l'.length cap', .int .i64 0] 88 (0, 0))) w.heap.size 0 := by
    intro l' cap' h1 h2
    refine ⟨A, l', cap', h1, ?_, h2.below ((Below.refl _ _).alloc (Nat.le_refl _) _)⟩
    show (w.heap.push _)[w.heap.size]? = _
    simp
  by_cases hl : l.length ≤ 2000
  · have K := Lib.hid (key l cap hl h)
    clear key h
    go_enter Tryz.func35, Tryz.ntmps35
    go_wp2
    go_ways
    go_ret
    exact ⟨rfl, K.out, (Below.refl _ _).alloc (Nat.le_refl _) _⟩
  · have h2 : Bytes w w.heap.size A (l.take 2000) := by
      intro _
      obtain ⟨b, o, e, hb, hc⟩ := h.at_ (k := 0) (by omega)
      refine ⟨b, o, e, hb, fun k hk => ?_⟩
      rw [List.length_take] at hk
      rw [hc k (by omega)]
      simp
    obtain ⟨b, o, rfl, hb, hc⟩ := h.at_ (k := 0) (by omega)
    have ht : (l.take 2000).length = 2000 := by rw [List.length_take]; omega
    have K := Lib.hid (key (l.take 2000) cap (by omega) h2)
    rw [ht] at K
    clear key h h2 hc ht
    go_enter Tryz.func35, Tryz.ntmps35
    go_wp2
    go_ways
    go_ret
    exact ⟨rfl, K.out, (Below.refl _ _).alloc (Nat.le_refl _) _⟩
end Go.Proofs.YtkhcfhhejmkikaaGreatDoor

namespace Go.Proofs.YtkhcfhhejmkikaaGreatDoor
open Go.RowKit
set_option maxRecDepth 100000

/-- A reader that has gone on by so much; nothing else that was there has turned. -/
def DrewT (R p : Nat) (w w' : World) : Prop := (∃ p', p' ≤ p ∧ Rd w' R p') ∧ Touch R w w'
theorem DrewT.trans {R p p' : Nat} {a b c : World} (h : DrewT R p a b) (k : DrewT R p' b c) : DrewT R p' a c := ⟨k.1, h.2.trans k.2⟩
theorem DrewT.more {R p p' : Nat} {a b : World} (h : DrewT R p a b) (hp : p ≤ p') : DrewT R p' a b := by
  obtain ⟨⟨q, hq, hr⟩, ht⟩ := h
  exact ⟨⟨q, Nat.le_trans hq hp, hr⟩, ht⟩
theorem Touch.frozen {g : Nat} {a b : World} (h : Touch g a b) {k o : Nat} (h1 : g < k) (h2 : k < a.heap.size) : b.frozen? ⟨k, o, none⟩ = a.frozen? ⟨k, o, none⟩ := World.frozen?_of_block (h.above k h1 h2)
theorem touch_pickW (w : World) (R p q : Nat) : Touch R w (pickW w R p q) := by
  refine ⟨below_pickW w, fun k h1 h2 => ?_⟩
  show (w.heap.modify R _)[k]? = _
  rw [Array.getElem?_modify, if_neg (by omega)]
theorem Rd.set {w : World} {R p : Nat} (h : Rd w R p) {b : Nat} (hb : R < b) (o : Nat) (v : Value) : Rd (w.setCell ⟨b, o, none⟩ v) R p := by
  obtain ⟨A, l, cap, h0, h1, h2⟩ := h.ex
  refine ⟨A, l, cap, h0, ?_, h2.below ((Below.refl R w).setCell (p := ⟨b, o, none⟩) (Nat.le_of_lt hb) v)⟩
  show (w.heap.modify b _)[R]? = _
  rw [Array.getElem?_modify, if_neg (by omega)]
  exact h1
theorem DrewT.set {R p : Nat} {w w1 : World} (h : DrewT R p w w1) {b : Nat} (hb : w.heap.size ≤ b) (hR : R < w.heap.size) (o : Nat) (v : Value) : DrewT R p w (w1.setCell ⟨b, o, none⟩ v) := by
  obtain ⟨⟨q, hq, hr⟩, ht⟩ := h
  refine ⟨⟨q, hq, hr.set (by omega) o v⟩, ht.below.setCell (p := ⟨b, o, none⟩) (by show R ≤ b; omega) v, fun k h1 h2 => ?_⟩
  show (w1.heap.modify b _)[k]? = _
  rw [Array.getElem?_modify, if_neg (by omega)]
  exact ht.above k h1 h2
theorem DrewT.below {R p : Nat} {w w' : World} (h : Rd w R p) (hb : Below w.heap.size w w') : DrewT R p w w' := ⟨⟨p, Nat.le_refl _, h.keep hb⟩, Touch.of_below hb h.lt⟩
theorem pick_t (R p n : Nat) (w : World) (h : Rd w R p) (hp : p ≤ 1000000) (hn1 : 1 ≤ n) (hn2 : n ≤ 1000) :
    Calls Tryz.prog 46 #[.pointer (some ⟨R, 0, none⟩), .int .i64 (n : Int)] w fun e w' => ∃ r : Nat, r < n ∧ e = .returned (.int .i64 (r : Int)) ∧ DrewT R (p + 1) w w' :=
  (pick_any R p n w h hp hn1 hn2).mono fun e w' ⟨r, hr, he, q, hw⟩ => ⟨r, hr, he, by rw [hw]; exact ⟨⟨p + 1, Nat.le_refl _, h.pick q⟩, touch_pickW _ _ _ _⟩⟩
/-- A list of names at a block behind the reader. -/
def NmS (w : World) (R b o : Nat) (ss : List ByteArray) : Prop := R < b ∧ b < w.heap.size ∧ ∀ k, (h : k < ss.length) → w.cell? ⟨b, o + k, none⟩ = some (.string ss[k])
theorem NmS.touch {w w' : World} {R b o : Nat} {ss : List ByteArray} (h : NmS w R b o ss) (ht : Touch R w w') : NmS w' R b o ss :=
  ⟨h.1, Nat.lt_of_lt_of_le h.2.1 ht.below.size, fun k hk => (ht.cell h.1 h.2.1).trans (h.2.2 k hk)⟩
theorem NmS.lit {w : World} {R : Nat} (ss : List ByteArray) (t : TypeId) (fr : Nat × Nat) (hR : R < w.heap.size) : NmS (w.alloc (.cells (ss.map Value.string).toArray t fr)) R w.heap.size 0 ss :=
  ⟨hR, by rw [World.size_alloc]; omega, fun k hk => lit_cell w _ t fr k _ (by simp [hk])⟩
theorem of_t (R p : Nat) (b o cap : Nat) (ss : List ByteArray) (w : World) (h : Rd w R p) (hp : p ≤ 1000000) (hn1 : 1 ≤ ss.length) (hn2 : ss.length ≤ 1000) (hN : NmS w R b o ss) :
    Calls Tryz.prog 50 #[.pointer (some ⟨R, 0, none⟩), .slice (some ⟨b, o, none⟩) ss.length cap] w fun e w' => ∃ s, s ∈ ss ∧ e = .returned (.string s) ∧ DrewT R (p + 1) w w' :=
  (of_any R p b o cap ss w h hp hn1 hn2 (by have := hN.1; omega) hN.2.2).mono fun e w' ⟨s, hs, he, q, hw⟩ => ⟨s, hs, he, by rw [hw]; exact ⟨⟨p + 1, Nat.le_refl _, h.pick q⟩, touch_pickW _ _ _ _⟩⟩
theorem num_t (R p : Nat) (ss : List Int) (w : World) (t : TypeId) (fr : Nat × Nat) (h : Rd w R p) (hp : p ≤ 1000000) (hn1 : 1 ≤ ss.length) (hn2 : ss.length ≤ 1000) :
    Calls Tryz.prog 49 #[.pointer (some ⟨R, 0, none⟩), .slice (some ⟨w.heap.size, 0, none⟩) ss.length ss.length] (w.alloc (.cells (ss.map (Value.int .i64)).toArray t fr)) fun e w' => ∃ s, s ∈ ss ∧ e = .returned (.int .i64 s) ∧ DrewT R (p + 1) w w' := by
  have hlt := h.lt
  have hb : Below w.heap.size w (w.alloc (.cells (ss.map (Value.int .i64)).toArray t fr)) := (Below.refl _ _).alloc (Nat.le_refl _) _
  refine (num_any R p w.heap.size 0 ss.length ss _ (h.keep hb) hp hn1 hn2 (by omega) ?_).mono ?_
  · intro k hk
    exact lit_cell w _ t fr k _ (by simp [hk])
  · rintro e w' ⟨s, hs, rfl, q, rfl⟩
    exact ⟨s, hs, rfl, ⟨p + 1, Nat.le_refl _, (h.keep hb).pick q⟩, (Touch.of_below hb hlt).trans (touch_pickW _ _ _ _)⟩
theorem oflit_t (R p : Nat) (ss : List ByteArray) (w : World) (t : TypeId) (fr : Nat × Nat) (h : Rd w R p) (hp : p ≤ 1000000) (hn1 : 1 ≤ ss.length) (hn2 : ss.length ≤ 1000) :
    Calls Tryz.prog 50 #[.pointer (some ⟨R, 0, none⟩), .slice (some ⟨w.heap.size, 0, none⟩) ss.length ss.length] (w.alloc (.cells (ss.map Value.string).toArray t fr)) fun e w' => ∃ s, s ∈ ss ∧ e = .returned (.string s) ∧ DrewT R (p + 1) w w' := by
  have hb : Below w.heap.size w (w.alloc (.cells (ss.map Value.string).toArray t fr)) := (Below.refl _ _).alloc (Nat.le_refl _) _
  exact (of_t R p w.heap.size 0 ss.length ss _ (h.keep hb) hp hn1 hn2 (NmS.lit ss t fr h.lt)).mono fun e w' ⟨s, hs, he, hd⟩ => ⟨s, hs, he, hd.1, (Touch.of_below hb h.lt).trans hd.2⟩

end Go.Proofs.YtkhcfhhejmkikaaGreatDoor
