/-
  What the law FnExprForm needs: ExprParts and ExprDeep of the program, the drawer, what is valid.
-/
import Derived.Test.YtoepehlndljkoaaDoorF4
import Derived.Test.YtoepehlndljkoaaDoorG15
namespace Go.Proofs.YtoepehlndljkoaaDoor
open Go.RowKit
set_option maxRecDepth 100000

theorem valid_kid {e k : E} (h : validE e = true) (hk : k ∈ e.kids) : validE k = true := by
  have h1 := validE_form h
  have h2 := validE_size h
  unfold validE
  rw [Bool.and_eq_true, decide_eq_true_eq]
  have h3 := sizeL_mem hk
  rw [sizeE_kids] at h2
  exact ⟨form_more 5 k (formE_kid h1 hk), by omega⟩
theorem fit_neg (op : Int) (s : ByteArray) (len : Nat) : fitB op (-1) s len = false := by
  cases h : fitB op (-1) s len with
  | false => rfl
  | true => rcases fitB_cases h with ⟨_, h, _⟩ | ⟨_, h, _⟩ | ⟨_, h, _⟩ | ⟨_, h, _⟩ | ⟨_, h, _⟩ <;> omega
theorem valid_neg (op : Int) (s : ByteArray) (ks : List E) : validE (.mk op (-1) s ks) = false := by
  unfold validE
  rw [formE_unfit (e := .mk op (-1) s ks) (fit_neg _ _ _)]; rfl
def doS : ByteArray := ⟨#[100, 111]⟩
theorem do_no : nameB doS = false := by
  have h : isKeyB doS = true := by decide +kernel
  unfold nameB
  rw [h]
  simp
theorem fit_do (op n : Int) (len : Nat) : fitB op n doS len = false := by
  cases h : fitB op n doS len with
  | false => rfl
  | true =>
    have hd : doS ≠ ⟨#[]⟩ := by decide
    rcases fitB_cases h with ⟨_, _, h, _⟩ | ⟨_, _, _, h⟩ | ⟨_, _, _, h⟩ | ⟨_, _, h, _⟩ | ⟨_, _, h, _⟩
    · exact absurd h hd
    · rw [do_no] at h; cases h
    · rw [do_no] at h; cases h
    · exact absurd h hd
    · exact absurd h hd
theorem valid_do (op n : Int) (ks : List E) : validE (.mk op n doS ks) = false := by
  unfold validE
  rw [formE_unfit (e := .mk op n doS ks) (fit_do _ _ _)]; rfl
def notE (e : E) : E := .mk 11 0 ⟨#[]⟩ [e]
theorem notE_form (d : Nat) (e : E) : formE (d + 1) (notE e) = formE d e := by
  rw [formE_succ]
  show (fitB 11 0 ⟨#[]⟩ 1 && [e].all (formE d)) = _
  have h : fitB 11 0 ⟨#[]⟩ 1 = true := by unfold fitB; rfl
  rw [h]
  simp
theorem notE_valid (e : E) : validE (notE e) = (formE 5 e && decide (sizeE e < 30)) := by
  unfold validE
  rw [notE_form 5 e]
  congr 1
  have : sizeE (notE e) = 1 + (sizeE e + 0) := rfl
  rw [Bool.eq_iff_iff, decide_eq_true_eq, decide_eq_true_eq]
  omega
theorem notE_of {e : E} (h : validE (notE e) = true) : validE e = true := by
  rw [notE_valid, Bool.and_eq_true, decide_eq_true_eq] at h
  unfold validE
  rw [Bool.and_eq_true, decide_eq_true_eq]
  exact ⟨form_more 5 e h.1, by omega⟩
theorem notE_is {e : E} (h : validE e = true) : validE (notE e) = (decide (deepE e < 6) && decide (sizeE e < 30)) := by
  rw [notE_valid]
  congr 1
  rw [Bool.eq_iff_iff, decide_eq_true_eq]
  constructor
  · intro h5; have := deep_of_form 5 e h5; omega
  · intro hd; exact form_deep 6 5 e (validE_form h) (by omega)
set_option maxHeartbeats 1000000 in
theorem implExprDeep_any (e : E) (A : Option Addr) (cap : Nat) (w : World) (hR : RdS w w.heap.size e.kids A) (hl : bulkE e ≤ 1048576) (T : Tabs w) (G : Sgn w) :
    Calls Tryd.prog 13 #[exV e A cap] w (NumBelow (if validE e = true then deepE e else 0) w) := by
  have hsb := sizeE_bulk e
  obtain ⟨c0, c1, c2, c3, hlt, hb⟩ := box4 w (.int .i64 e.op) (.int .i64 e.n) (.string e.name) (.slice A e.kids.length cap) 30
  have CV := implExprValid_any e A cap _ ((hR.below hb).more hb.size) hl (T.below hb) (G.below hb)
  have CP := fun W (h : Below w.heap.size w W) => Lib.hid (deepOf_any _ e (Nat.le_refl _) A cap W ((hR.below h).more h.size) (by omega))
  unfold exV at CV CP ⊢
  clear hR T G
  cases hv : validE e
  · rw [hv] at CV
    replace CV := Lib.hid CV
    clear hv CP
    go_enter Tryd.func13, Tryd.ntmps13
    go_wp2_with ((go_at_call 11; (with_reducible refine Calls.mono CV.out ?_); rintro ee w1 ⟨rfl, hb1⟩; have hb2 := hb.trans (hb1.mono (Nat.le_of_lt hlt))))
    go_ret
    exact ⟨rfl, hb2⟩
  · rw [hv] at CV
    replace CV := Lib.hid CV
    clear hv
    generalize deepE e = dp at *
    go_enter Tryd.func13, Tryd.ntmps13
    go_wp2_with fail
    (with_reducible refine Calls.mono CV.out ?_)
    rintro ee w1 ⟨rfl, hb1⟩
    have k0 := (hb1.cell (p := ⟨w.heap.size, 0, none⟩) hlt).trans c0
    have k1 := (hb1.cell (p := ⟨w.heap.size, 1, none⟩) hlt).trans c1
    have k2 := (hb1.cell (p := ⟨w.heap.size, 2, none⟩) hlt).trans c2
    have k3 := (hb1.cell (p := ⟨w.heap.size, 3, none⟩) hlt).trans c3
    have hb2 := hb.trans (hb1.mono (Nat.le_of_lt hlt))
    have CP1 := Lib.hid (CP _ hb2).out
    clear CP CV hb hb1
    go_wp2_with fail
    (with_reducible refine Calls.mono CP1.out ?_)
    rintro ee w3 ⟨rfl, hb4⟩
    have hb5 := hb2.trans (hb4.mono hb2.size)
    go_wp2_with fail
    go_ret
    exact ⟨rfl, hb5⟩
set_option maxHeartbeats 1000000 in
theorem implExprParts_any (e : E) (A : Option Addr) (cap : Nat) (w : World) (hR : RdS w w.heap.size e.kids A) (hl : bulkE e ≤ 1048576) (T : Tabs w) (G : Sgn w) :
    Calls Tryd.prog 14 #[exV e A cap] w (NumBelow (if validE e = true then sizeE e else 0) w) := by
  have hsb := sizeE_bulk e
  obtain ⟨c0, c1, c2, c3, hlt, hb⟩ := box4 w (.int .i64 e.op) (.int .i64 e.n) (.string e.name) (.slice A e.kids.length cap) 30
  have CV := implExprValid_any e A cap _ ((hR.below hb).more hb.size) hl (T.below hb) (G.below hb)
  have CP := fun W (h : Below w.heap.size w W) => Lib.hid (countParts_any e A cap W ((hR.below h).more h.size) (by omega))
  unfold exV at CV CP ⊢
  clear hR T G
  cases hv : validE e
  · rw [hv] at CV
    replace CV := Lib.hid CV
    clear hv CP
    go_enter Tryd.func14, Tryd.ntmps14
    go_wp2_with ((go_at_call 11; (with_reducible refine Calls.mono CV.out ?_); rintro ee w1 ⟨rfl, hb1⟩; have hb2 := hb.trans (hb1.mono (Nat.le_of_lt hlt))))
    go_ret
    exact ⟨rfl, hb2⟩
  · rw [hv] at CV
    replace CV := Lib.hid CV
    clear hv
    generalize sizeE e = dp at *
    go_enter Tryd.func14, Tryd.ntmps14
    go_wp2_with fail
    (with_reducible refine Calls.mono CV.out ?_)
    rintro ee w1 ⟨rfl, hb1⟩
    have k0 := (hb1.cell (p := ⟨w.heap.size, 0, none⟩) hlt).trans c0
    have k1 := (hb1.cell (p := ⟨w.heap.size, 1, none⟩) hlt).trans c1
    have k2 := (hb1.cell (p := ⟨w.heap.size, 2, none⟩) hlt).trans c2
    have k3 := (hb1.cell (p := ⟨w.heap.size, 3, none⟩) hlt).trans c3
    have hb2 := hb.trans (hb1.mono (Nat.le_of_lt hlt))
    have CP1 := Lib.hid (CP _ hb2).out
    clear CP CV hb hb1
    go_wp2_with fail
    (with_reducible refine Calls.mono CP1.out ?_)
    rintro ee w3 ⟨rfl, hb4⟩
    have hb5 := hb2.trans (hb4.mono hb2.size)
    go_wp2_with fail
    go_ret
    exact ⟨rfl, hb5⟩
theorem Res.below {w w' : World} {B b : Nat} {v0 v1 v2 v3 : Value} (h : Res w b v0 v1 v2 v3) (hb : Below B w w') (hB : b < B) : Res w' b v0 v1 v2 v3 :=
  ⟨h.c.below hb hB, fun o => (hb.frozen (p := ⟨b, o, none⟩) hB).trans (h.f o), Nat.lt_of_lt_of_le h.lt hb.size⟩
/-- What a drawer of one expression leaves. -/
def Dr1 (w : World) (ee : Ending) (w' : World) : Prop := ∃ (e : E) (A : Option Addr) (c : Nat), ee = .returned (exV e A c) ∧ PdS w' (Between w' w.heap.size w'.heap.size) e.kids A ∧ bulkE e ≤ 3000 ∧ Below w.heap.size w w'
set_option maxHeartbeats 2000000 in
theorem drawExprValid_any (A : Option Addr) (l : List UInt8) (cap : Nat) (w : World) (h : Bytes w w.heap.size A l) (hn : l.length ≤ cap) (hcap : cap ≤ 9223372036854775807) :
    Calls Tryd.prog 10 #[.slice A l.length cap] w (Dr1 w) := by
  have hb0 := (Below.refl w.heap.size w).alloc (Nat.le_refl _) (.cells #[.int .i64 0, .int .i64 0, .string ⟨#[]⟩, .slice none 0 0] 30)
  have R0 := Lib.hid (Res.new w (.int .i64 0) (.int .i64 0) (.string ⟨#[]⟩) (.slice none 0 0) 30)
  have OP := l30Open_any A l cap (w.alloc (.cells #[.int .i64 0, .int .i64 0, .string ⟨#[]⟩, .slice none 0 0] 30)) (by
    intro hne
    obtain ⟨b, o, e, hb, hc⟩ := h hne
    exact ⟨b, o, e, Nat.lt_of_lt_of_le hb hb0.size, fun j hj => (hb0.cell (p := ⟨b, _, none⟩) hb).trans (hc j hj)⟩) hn hcap
  have HB0 := Lib.hid hb0
  clear h hb0
  go_enter Tryd.func10, Tryd.ntmps10
  go_wp2_with fail
  generalize w.alloc (.cells #[.int .i64 0, .int .i64 0, .string ⟨#[]⟩, .slice none 0 0] 30) = w0 at *
  refine Calls.mono OP ?_
  rintro ee w1 ⟨rfl, hr1, hb1⟩
  have LX := Lib.hid (l2Bent_any w0.heap.size 0 w1 hr1 (by omega))
  have hl0 := R0.out.lt
  have R1 := Lib.hid (R0.out.below hb1 hl0)
  have HB1 := Lib.hid (HB0.out.trans (hb1.mono (Nat.le_of_lt hl0)))
  have hs1 := hb1.size
  clear hb1
  clear OP
  go_wp2_with fail
  refine Calls.mono LX.out ?_
  rintro ee w2 ⟨e, A2, c2, rfl, hk2, hbk, hd2⟩
  unfold exV
  have R2 := R1.out.below hd2.2.below hl0
  have HB2 := Lib.hid (HB1.out.trans (hd2.2.below.mono (Nat.le_of_lt hl0)))
  have HK := Lib.hid hk2
  have hq : w.heap.size < w1.heap.size := Nat.lt_of_lt_of_le hl0 hs1
  obtain ⟨c0, c1, c3, c4⟩ := R2.c
  have f0 := R2.f 0
  have f1 := R2.f 1
  have f2 := R2.f 2
  have f3 := R2.f 3
  clear hd2 hk2 R2 R1 R0 LX HB0 HB1
  go_wp2_with fail
  refine bodyPost_ret (v := .agg #[.int .i64 e.op, .int .i64 e.n, .string e.name, .slice A2 e.kids.length c2]) (by simp [results, Tryd.results10, go_sem, c0, c1, c3, c4]) rfl ⟨e, A2, c2, rfl, ?_, hbk, ?_⟩
  · exact ((((HK.out.set hq 0 _).set hq 1 _).set hq 2 _).set hq 3 _).pd.wide (Nat.le_of_lt hq) (Nat.le_refl _)
  · exact (((HB2.out.setCell (p := ⟨w.heap.size, 0, none⟩) (Nat.le_refl _) _).setCell (p := ⟨w.heap.size, 1, none⟩) (Nat.le_refl _) _).setCell (p := ⟨w.heap.size, 2, none⟩) (Nat.le_refl _) _).setCell (p := ⟨w.heap.size, 3, none⟩) (Nat.le_refl _) _
end Go.Proofs.YtoepehlndljkoaaDoor
