/-
  Parts counted, depth: both programs; ExprValid, ExprParts, ExprDeep of both.
-/
import Derived.Test.YtoepehlndljkoaaDoorF3
import Derived.OneCell
namespace Go.Proofs.YtoepehlndljkoaaDoor
open Go.RowKit
set_option maxRecDepth 100000

/-- A number, and new blocks at most. -/
def NumBelow (n : Nat) (w : World) (e : Ending) (w' : World) : Prop := e = .returned (.int .i64 (n : Int)) ∧ Below w.heap.size w w'
set_option maxHeartbeats 1000000 in
theorem l2Parts_step (e : E) (A : Option Addr) (cap : Nat) (w : World) (hR : RdS w w.heap.size e.kids A) (hl : sizeE e ≤ 2000000)
    (ih : ∀ (k : E) (_ : sizeE k < sizeE e) (A : Option Addr) (cap : Nat) (w : World), RdS w w.heap.size k.kids A → Calls Tryd.prog 26 #[exV k A cap] w (NumBelow (sizeE k) w)) :
    Calls Tryd.prog 26 #[exV e A cap] w (NumBelow (sizeE e) w) := by
  unfold exV at ih ⊢
  have IH := Lib.hid ih
  have HR := Lib.hid hR
  clear ih hR
  have hsz := sizeE_kids e
  obtain ⟨op, n, s, ks⟩ := e
  dsimp only [E.op, E.n, E.name, E.kids] at *
  have HS := Lib.hid hsz
  have hll := length_le_sizeL ks
  have hln : sizeL ks ≤ 2000000 := by omega
  clear hsz hl
  obtain ⟨c0, c1, c2, c3, hlt, hb⟩ := box_cells w (.int .i64 op) (.int .i64 n) (.string s) (.slice A ks.length cap) 30
  clear c0 c1 c2
  go_enter Tryd.func26, Tryd.ntmps26
  go_wp2
  generalize w.alloc (.cells #[.int .i64 op, .int .i64 n, .string s, .slice A ks.length cap] 30) = wa at *
  go_loopw [3, 4] (fun m i wr => ∃ k : Nat, k ≤ ks.length ∧ i = .int .i64 k ∧ m = .int .i64 ((1 + sizeL (ks.take k) : Nat) : Int) ∧ Below wa.heap.size wa wr) (fun _ i _ => ks.length - (intOf i).toNat)
  case atStart => exact ⟨0, Nat.zero_le _, rfl, rfl, Below.refl _ _⟩
  case round =>
    obtain ⟨k, hk, rfl, rfl, hbr⟩ := hrel
    have g3 := (hbr.cell (p := ⟨w.heap.size, 3, none⟩) hlt).trans c3
    have hbw := hb.trans (hbr.mono (Nat.le_of_lt hlt))
    have hbs := hbw.size
    have htk := sizeL_take_le ks k
    by_cases hlk : k < ks.length
    · have HT := Lib.hid (sizeL_take hlk)
      have hsk := sizeL_get hlk
      obtain ⟨b, o, rfl, hB, ⟨d0, d1, d2⟩, A', cap', d3, hr'⟩ := (HR.out.below hbw).at_ hlk
      have hlt2 : sizeE ks[k] < sizeE (E.mk op n s ks) := by rw [HS.out]; omega
      have htk1 := sizeL_take_le ks (k + 1)
      have hd : sizeL (ks.take k) + sizeE ks[k] ≤ 2000000 := by rw [← HT.out]; omega
      generalize hkd : ks[k] = kid at *
      have HK := Lib.hid hkd
      clear hkd htk1
      obtain ⟨op', n', s', ks'⟩ := kid
      dsimp only [E.op, E.n, E.name, E.kids] at d0 d1 d2 d3 hr'
      have IHK := Lib.hid (IH.out (E.mk op' n' s' ks') hlt2 A' cap' _ (hr'.more hbs))
      clear hr' hlt2
      dsimp only [E.op, E.n, E.name, E.kids] at IHK
      generalize sizeE (E.mk op' n' s' ks') = sk at *
      generalize hst : sizeL (ks.take k) = st at *
      go_wp2_with ((go_at_call 26; (with_reducible refine Calls.mono IHK.out ?_); rintro ee w2 ⟨rfl, hb2⟩; have hb3 := hbr.trans (hb2.mono hbr.size)))
      go_roundw
      case rel => exact ⟨k + 1, by omega, by go_num, by rw [HT.out]; go_num, hb3⟩
      case measure => simp only [intOf]; omega
    · obtain rfl : k = ks.length := by omega
      go_wp2
      go_ret
      exact ⟨by rw [HS.out, List.take_length]; rfl, hbw⟩
theorem l2Parts_any : ∀ (N : Nat) (e : E) (_ : sizeE e ≤ N) (A : Option Addr) (cap : Nat) (w : World), RdS w w.heap.size e.kids A → N ≤ 2000000 → Calls Tryd.prog 26 #[exV e A cap] w (NumBelow (sizeE e) w)
  | 0, e, h, _, _, _, _, _ => by have := sizeE_pos e; omega
  | N + 1, e, h, A, cap, w, hR, hN => l2Parts_step e A cap w hR (by omega) (fun k hk A cap w hr => l2Parts_any N k (by omega) A cap w hr (by omega))

/-- A cell of the call's own that holds a number. -/
def OneAt (w : World) (g : Nat) (n : Nat) : Prop := w.heap[g]? = some (.cells #[.int .i64 (n : Int)] 3 (0, 0))
theorem OneAt.lt {w : World} {g n : Nat} (h : OneAt w g n) : g < w.heap.size := lt_of_block h
theorem OneAt.alloc {w : World} {g n : Nat} (h : OneAt w g n) (o : Obj) : OneAt (w.alloc o) g n := by
  unfold OneAt at h ⊢
  rw [heap_alloc_old w o (lt_of_block h)]; exact h
theorem OneAt.set {w : World} {g n : Nat} (h : OneAt w g n) (m : Nat) : OneAt (w.setCell ⟨g, 0, none⟩ (.int .i64 (m : Int))) g m := one_setCell h
/-- What counting leaves: one more for each part. -/
def CountRet (g n m : Nat) (w : World) (e : Ending) (w' : World) : Prop := e = .returned (.tuple #[]) ∧ OneAt w' g (n + m) ∧ Touch g w w'
def countF (g : Nat) : Value := .func (.func 44) #[] #[.pointer (some ⟨g, 0, none⟩)]
set_option maxHeartbeats 1000000 in
theorem countOne_any (g n : Nat) (v0 v1 v2 v3 : Value) (w : World) (h : OneAt w g n) (hn : n ≤ 2000000) :
    Calls Tryd.prog 44 #[.agg #[v0, v1, v2, v3], .pointer (some ⟨g, 0, none⟩)] w (CountRet g n 1 w) :=
  (countOne g n v0 v1 v2 v3 w (cell_of_one h) (free_of_one h) (by omega) (by omega) h.lt).mono fun e w' ⟨he, hw⟩ => by
    subst hw
    have hc : ((n : Int) + 1) = ((n + 1 : Nat) : Int) := by omega
    rw [hc]
    have hb1 := (Below.refl g w).setCell (p := ⟨g, 0, none⟩) (Nat.le_refl _) (.int .i64 ((n + 1 : Nat) : Int))
    refine ⟨he, (h.set (n + 1)).alloc _, hb1.alloc (Nat.le_trans (Nat.le_of_lt h.lt) hb1.size) _, fun k h1 h2 => ?_⟩
    rw [heap_alloc_old _ _ (Nat.lt_of_lt_of_le h2 hb1.size)]
    show (w.heap.modify g _)[k]? = _
    rw [Array.getElem?_modify]
    rw [if_neg (by omega)]
set_option maxHeartbeats 2000000 in
theorem eachPart_step (g n : Nat) (e : E) (A : Option Addr) (cap : Nat) (w : World) (hR : RdS w g e.kids A) (h1 : OneAt w g n) (hl : n + sizeE e ≤ 2000000)
    (ih : ∀ (k : E) (_ : sizeE k < sizeE e) (n : Nat) (A : Option Addr) (cap : Nat) (w : World), RdS w g k.kids A → OneAt w g n → n + sizeE k ≤ 2000000 → Calls Tryd.prog 43 #[exV k A cap, countF g] w (CountRet g n (sizeE k) w)) :
    Calls Tryd.prog 43 #[exV e A cap, countF g] w (CountRet g n (sizeE e) w) := by
  unfold exV countF at ih ⊢
  have IH := Lib.hid ih
  have HR := Lib.hid hR
  clear ih hR
  have hsz := sizeE_kids e
  obtain ⟨op, nn, s, ks⟩ := e
  dsimp only [E.op, E.n, E.name, E.kids] at *
  have HS := Lib.hid hsz
  have hll := length_le_sizeL ks
  have hln : n + (1 + sizeL ks) ≤ 2000000 := by omega
  clear hsz hl
  obtain ⟨c0, c1, c2, c3, hlt, hb⟩ := box_cells w (.int .i64 op) (.int .i64 nn) (.string s) (.slice A ks.length cap) 30
  have hgl := h1.lt
  have H1 := Lib.hid (h1.alloc (.cells #[.int .i64 op, .int .i64 nn, .string s, .slice A ks.length cap] 30))
  clear h1
  go_enter Tryd.func43, Tryd.ntmps43
  go_wp2_with fail
  generalize w.alloc (.cells #[.int .i64 op, .int .i64 nn, .string s, .slice A ks.length cap] 30) = wa at *
  go_at_call 44
  refine Calls.mono (countOne_any g n _ _ _ _ wa H1.out (by omega)) ?_
  rintro ee w1 ⟨rfl, h1, hb1⟩
  have d3 := (hb1.cell (k := w.heap.size) (o := 3) (by omega) hlt).trans c3
  have hbq : Touch g w w1 := (Touch.of_below hb hgl).trans hb1
  go_wp2
  go_loopw [12] (fun i wr => ∃ k : Nat, k ≤ ks.length ∧ i = .int .i64 k ∧ OneAt wr g (n + 1 + sizeL (ks.take k)) ∧ Touch g w wr) (fun i _ => ks.length - (intOf i).toNat)
  case atStart => exact ⟨0, Nat.zero_le _, rfl, h1, hbq⟩
  case round =>
    clear d3 hbq h1 hb1
    obtain ⟨k, hk, rfl, hone, hbr⟩ := hrel
    have hbw := hbr.below
    have hbs := hbw.size
    have htk := sizeL_take_le ks k
    by_cases hlk : k < ks.length
    · have HT := Lib.hid (sizeL_take hlk)
      have hsk := sizeL_get hlk
      obtain ⟨b, o, rfl, hB, ⟨d0, d1, d2⟩, A', cap', d3, hr'⟩ := (HR.out.below hbw).at_ hlk
      have hlt2 : sizeE ks[k] < sizeE (E.mk op nn s ks) := by rw [HS.out]; omega
      have htk1 := sizeL_take_le ks (k + 1)
      have hd : n + 1 + sizeL (ks.take k) + sizeE ks[k] ≤ 2000000 := by have := HT.out; omega
      generalize hkd : ks[k] = kid at *
      have HK := Lib.hid hkd
      clear hkd htk1
      obtain ⟨op', n', s', ks'⟩ := kid
      dsimp only [E.op, E.n, E.name, E.kids] at d0 d1 d2 d3 hr'
      have hal := (Below.refl wr.heap.size wr).alloc (Nat.le_refl _) (.cells #[.int .i64 op', .int .i64 n', .string s', .slice A' ks'.length cap'] 30)
      have hal2 : Touch g wr _ := Touch.of_below hal hone.lt
      have IHK := Lib.hid (IH.out (E.mk op' n' s' ks') hlt2 _ A' cap' _ (hr'.below (hal.mono (Nat.le_of_lt hone.lt))) (hone.alloc (.cells #[.int .i64 op', .int .i64 n', .string s', .slice A' ks'.length cap'] 30)) hd)
      clear hr' hlt2 hone
      dsimp only [E.op, E.n, E.name, E.kids] at IHK
      generalize sizeE (E.mk op' n' s' ks') = sk at *
      generalize hst : sizeL (ks.take k) = st at *
      go_wp2_with ((go_at_call 43; (with_reducible refine Calls.mono IHK.out ?_); rintro ee w2 ⟨rfl, ho2, hb2⟩; have hb3 := (hbr.trans hal2).trans hb2; have HO2 := Lib.hid ho2; clear ho2 hb2 hal hal2))
      go_roundw
      case rel => exact ⟨k + 1, by omega, by go_num, by rw [HT.out, ← Nat.add_assoc]; exact HO2.out, hb3⟩
      case measure => simp only [intOf]; omega
    · obtain rfl : k = ks.length := by omega
      have HO := Lib.hid hone
      clear hone
      go_wp2
      go_end0
      refine ⟨rfl, ?_, hbr⟩
      have := HO.out
      rw [List.take_length] at this
      rw [HS.out, ← Nat.add_assoc]
      exact this
theorem eachPart_count : ∀ (N : Nat) (g n : Nat) (e : E) (_ : sizeE e ≤ N) (A : Option Addr) (cap : Nat) (w : World), RdS w g e.kids A → OneAt w g n → n + sizeE e ≤ 2000000 → Calls Tryd.prog 43 #[exV e A cap, countF g] w (CountRet g n (sizeE e) w)
  | 0, _, _, e, h, _, _, _, _, _, _ => by have := sizeE_pos e; omega
  | N + 1, g, n, e, h, A, cap, w, hR, h1, hl => eachPart_step g n e A cap w hR h1 hl (fun k hk n A cap w hr h1 hl => eachPart_count N g n k (by omega) A cap w hr h1 hl)
set_option maxHeartbeats 1000000 in
theorem countParts_any (e : E) (A : Option Addr) (cap : Nat) (w : World) (hR : RdS w w.heap.size e.kids A) (hl : sizeE e ≤ 2000000) :
    Calls Tryd.prog 24 #[exV e A cap] w (NumBelow (sizeE e) w) := by
  obtain ⟨c0, c1, c2, c3, hlt, hb⟩ := box_cells w (.int .i64 e.op) (.int .i64 e.n) (.string e.name) (.slice A e.kids.length cap) 30
  have EP := fun W (h : Below w.heap.size w W) (g : Nat) (hg : w.heap.size ≤ g) (h1 : OneAt W g 0) => Lib.hid (eachPart_count _ g 0 e (Nat.le_refl _) A cap W ((hR.below h).more hg) h1 (by omega))
  unfold exV countF at EP
  unfold exV
  generalize sizeE e = sz at *
  have hone : OneAt ((w.alloc (.cells #[.int .i64 e.op, .int .i64 e.n, .string e.name, .slice A e.kids.length cap] 30)).alloc (.cells #[.int .i64 0] 3)) (w.alloc (.cells #[.int .i64 e.op, .int .i64 e.n, .string e.name, .slice A e.kids.length cap] 30)).heap.size 0 := heap_alloc_new _ _
  have hb1 := hb.alloc (Nat.le_of_lt hlt) (.cells #[.int .i64 0] 3)
  have EP1 := Lib.hid (EP _ hb1 _ (Nat.le_of_lt hlt) hone).out
  rw [World.size_alloc] at EP1
  have hx : w.heap.size ≤ w.heap.size + 1 := by omega
  clear EP hR hone
  go_enter Tryd.func24, Tryd.ntmps24
  go_wp2_with fail
  (with_reducible refine Calls.mono EP1.out ?_)
  rintro ee w1 ⟨rfl, h1, hb2⟩
  have hc := cell_of_one h1
  rw [Nat.zero_add] at hc
  have hb3 := hb1.trans (hb2.below.mono hx)
  go_wp2
  go_ret
  exact ⟨rfl, hb3⟩
set_option maxHeartbeats 1000000 in
theorem deepOf_step (e : E) (A : Option Addr) (cap : Nat) (w : World) (hR : RdS w w.heap.size e.kids A) (hl : sizeE e ≤ 2000000)
    (ih : ∀ (k : E) (_ : sizeE k < sizeE e) (A : Option Addr) (cap : Nat) (w : World), RdS w w.heap.size k.kids A → Calls Tryd.prog 27 #[exV k A cap] w (NumBelow (deepE k) w)) :
    Calls Tryd.prog 27 #[exV e A cap] w (NumBelow (deepE e) w) := by
  unfold exV at ih ⊢
  have IH := Lib.hid ih
  have HR := Lib.hid hR
  clear ih hR
  have hsz := sizeE_kids e
  have hdd := deepE_kids e
  obtain ⟨op, n, s, ks⟩ := e
  dsimp only [E.op, E.n, E.name, E.kids] at *
  have HS := Lib.hid hsz
  have HD := Lib.hid hdd
  have hll := length_le_sizeL ks
  have hdl := deepL_le ks
  have hln : sizeL ks ≤ 2000000 := by omega
  clear hsz hl hdd
  obtain ⟨c0, c1, c2, c3, hlt, hb⟩ := box_cells w (.int .i64 op) (.int .i64 n) (.string s) (.slice A ks.length cap) 30
  clear c0 c1 c2
  go_enter Tryd.func27, Tryd.ntmps27
  go_wp2
  generalize w.alloc (.cells #[.int .i64 op, .int .i64 n, .string s, .slice A ks.length cap] 30) = wa at *
  go_loopw [3, 9] (fun m i wr => ∃ k : Nat, k ≤ ks.length ∧ i = .int .i64 k ∧ m = .int .i64 ((deepL (ks.take k) : Nat) : Int) ∧ Below wa.heap.size wa wr) (fun _ i _ => ks.length - (intOf i).toNat)
  case atStart => exact ⟨0, Nat.zero_le _, rfl, rfl, Below.refl _ _⟩
  case round =>
    obtain ⟨k, hk, rfl, rfl, hbr⟩ := hrel
    have g3 := (hbr.cell (p := ⟨w.heap.size, 3, none⟩) hlt).trans c3
    have hbw := hb.trans (hbr.mono (Nat.le_of_lt hlt))
    have hbs := hbw.size
    have htk := deepL_take_le ks k
    by_cases hlk : k < ks.length
    · have HT := Lib.hid (deepL_take hlk)
      have hsk := sizeL_get hlk
      have hdk := deepE_le ks[k]
      obtain ⟨b, o, rfl, hB, ⟨d0, d1, d2⟩, A', cap', d3, hr'⟩ := (HR.out.below hbw).at_ hlk
      have hlt2 : sizeE ks[k] < sizeE (E.mk op n s ks) := by rw [HS.out]; omega
      generalize hkd : ks[k] = kid at *
      have HK := Lib.hid hkd
      clear hkd
      obtain ⟨op', n', s', ks'⟩ := kid
      dsimp only [E.op, E.n, E.name, E.kids] at d0 d1 d2 d3 hr'
      have hal := (Below.refl wr.heap.size wr).alloc (Nat.le_refl _) (.cells #[.int .i64 op', .int .i64 n', .string s', .slice A' ks'.length cap'] 30)
      have IHK := Lib.hid (IH.out (E.mk op' n' s' ks') hlt2 A' cap' _ (((hr'.more hbs).below hal).more hal.size))
      clear hr' hlt2
      dsimp only [E.op, E.n, E.name, E.kids] at IHK
      generalize deepE (E.mk op' n' s' ks') = sk at *
      generalize sizeE (E.mk op' n' s' ks') = zk at *
      generalize hst : deepL (ks.take k) = st at *
      go_wp2_with ((go_at_call 27; (with_reducible refine Calls.mono IHK.out ?_); rintro ee w2 ⟨rfl, hb2⟩; have hb3 := (hbr.trans (hal.mono hbr.size)).trans (hb2.mono (Nat.le_trans hbr.size hal.size))))
      go_roundw
      case rel => exact ⟨k + 1, by omega, by go_num, by rw [HT.out]; go_num, hb3⟩
      case measure => simp only [intOf]; omega
    · obtain rfl : k = ks.length := by omega
      go_wp2
      go_ret
      exact ⟨by rw [HD.out, List.take_length]; go_num, hbw⟩
theorem deepOf_any : ∀ (N : Nat) (e : E) (_ : sizeE e ≤ N) (A : Option Addr) (cap : Nat) (w : World), RdS w w.heap.size e.kids A → N ≤ 2000000 → Calls Tryd.prog 27 #[exV e A cap] w (NumBelow (deepE e) w)
  | 0, e, h, _, _, _, _, _ => by have := sizeE_pos e; omega
  | N + 1, e, h, A, cap, w, hR, hN => deepOf_step e A cap w hR (by omega) (fun k hk A cap w hr => deepOf_any N k (by omega) A cap w hr (by omega))
set_option maxHeartbeats 1000000 in
theorem specExprValid_any (e : E) (A : Option Addr) (cap : Nat) (w : World) (hR : RdS w w.heap.size e.kids A) (hl : bulkE e ≤ 1048576) :
    Calls Tryd.prog 12 #[exV e A cap] w (BoolB (validE e) w) := by
  have hsb := sizeE_bulk e
  obtain ⟨c0, c1, c2, c3, hlt, hb⟩ := box_cells w (.int .i64 e.op) (.int .i64 e.n) (.string e.name) (.slice A e.kids.length cap) 30
  have hr1 := (hR.below hb).more hb.size
  have CF := l2Form_any 6 (by omega) e A cap _ hr1 (by omega)
  have CP := fun W (h : Below w.heap.size w W) => Lib.hid (l2Parts_any _ e (Nat.le_refl _) A cap W ((hR.below h).more h.size) (by omega))
  have HV := Lib.hid (show validE e = (formE 6 e && decide (sizeE e ≤ 30)) from rfl)
  unfold exV at CF CP ⊢
  clear hR hr1
  generalize validE e = vv at *
  cases hf : formE 6 e
  · rw [hf] at CF
    have HF := Lib.hid hf
    clear hf CP
    replace CF := Lib.hid CF
    go_enter Tryd.func12, Tryd.ntmps12
    go_wp2_with ((go_at_call 25; (with_reducible refine Calls.mono CF.out ?_); rintro ee w1 ⟨rfl, hb1⟩; have hb2 := hb.trans (hb1.mono (Nat.le_of_lt hlt))))
    go_ret
    exact ⟨ret_bool (by rw [HV.out, HF.out]; rfl), hb2⟩
  · rw [hf] at CF
    have HF := Lib.hid hf
    clear hf
    replace CF := Lib.hid CF
    generalize sizeE e = sz at *
    go_enter Tryd.func12, Tryd.ntmps12
    go_wp2_with fail
    (with_reducible refine Calls.mono CF.out ?_)
    rintro ee w1 ⟨rfl, hb1⟩
    have k0 := (hb1.cell (p := ⟨w.heap.size, 0, none⟩) hlt).trans c0
    have k1 := (hb1.cell (p := ⟨w.heap.size, 1, none⟩) hlt).trans c1
    have k2 := (hb1.cell (p := ⟨w.heap.size, 2, none⟩) hlt).trans c2
    have k3 := (hb1.cell (p := ⟨w.heap.size, 3, none⟩) hlt).trans c3
    have hb2 := hb.trans (hb1.mono (Nat.le_of_lt hlt))
    have CP1 := Lib.hid (CP _ hb2).out
    clear CP CF hb hb1
    go_wp2_with fail
    (with_reducible refine Calls.mono CP1.out ?_)
    rintro ee w3 ⟨rfl, hb4⟩
    have hb5 := hb2.trans (hb4.mono hb2.size)
    go_wp2
    go_ret
    exact ⟨ret_bool (by rw [HV.out, HF.out, Bool.true_and, Bool.eq_iff_iff]; simp <;> omega), hb5⟩
set_option maxHeartbeats 1000000 in
theorem implExprValid_any (e : E) (A : Option Addr) (cap : Nat) (w : World) (hR : RdS w w.heap.size e.kids A) (hl : bulkE e ≤ 1048576) (T : Tabs w) (G : Sgn w) :
    Calls Tryd.prog 11 #[exV e A cap] w (BoolB (validE e) w) := by
  have hsb := sizeE_bulk e
  obtain ⟨c0, c1, c2, c3, hlt, hb⟩ := box_cells w (.int .i64 e.op) (.int .i64 e.n) (.string e.name) (.slice A e.kids.length cap) 30
  have hr1 := (hR.below hb).more hb.size
  have CF := fitsWithin_any 6 (by omega) e A cap _ hr1 (T.below hb) (G.below hb) (by omega)
  have CP := fun W (h : Below w.heap.size w W) => Lib.hid (countParts_any e A cap W ((hR.below h).more h.size) (by omega))
  have HV := Lib.hid (show validE e = (formE 6 e && decide (sizeE e ≤ 30)) from rfl)
  unfold exV at CF CP ⊢
  clear hR hr1
  generalize validE e = vv at *
  cases hf : formE 6 e
  · rw [hf] at CF
    have HF := Lib.hid hf
    clear hf CP
    replace CF := Lib.hid CF
    go_enter Tryd.func11, Tryd.ntmps11
    go_wp2_with ((go_at_call 23; (with_reducible refine Calls.mono CF.out ?_); rintro ee w1 ⟨rfl, hb1⟩; have hb2 := hb.trans (hb1.mono (Nat.le_of_lt hlt))))
    go_ret
    exact ⟨ret_bool (by rw [HV.out, HF.out]; rfl), hb2⟩
  · rw [hf] at CF
    have HF := Lib.hid hf
    clear hf
    replace CF := Lib.hid CF
    generalize sizeE e = sz at *
    go_enter Tryd.func11, Tryd.ntmps11
    go_wp2_with fail
    (with_reducible refine Calls.mono CF.out ?_)
    rintro ee w1 ⟨rfl, hb1⟩
    have k0 := (hb1.cell (p := ⟨w.heap.size, 0, none⟩) hlt).trans c0
    have k1 := (hb1.cell (p := ⟨w.heap.size, 1, none⟩) hlt).trans c1
    have k2 := (hb1.cell (p := ⟨w.heap.size, 2, none⟩) hlt).trans c2
    have k3 := (hb1.cell (p := ⟨w.heap.size, 3, none⟩) hlt).trans c3
    have hb2 := hb.trans (hb1.mono (Nat.le_of_lt hlt))
    have CP1 := Lib.hid (CP _ hb2).out
    clear CP CF hb hb1
    go_wp2_with fail
    (with_reducible refine Calls.mono CP1.out ?_)
    rintro ee w3 ⟨rfl, hb4⟩
    have hb5 := hb2.trans (hb4.mono hb2.size)
    go_wp2
    go_ret
    exact ⟨ret_bool (by rw [HV.out, HF.out, Bool.true_and, Bool.eq_iff_iff]; simp <;> omega), hb5⟩
end Go.Proofs.YtoepehlndljkoaaDoor
