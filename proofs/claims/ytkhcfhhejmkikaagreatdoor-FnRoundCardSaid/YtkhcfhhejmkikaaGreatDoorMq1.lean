/-
  Drawn expressions have their form: the drawers l2Leaf, l2Expr, l2Any once more, with what is said of forms.
-/
import Derived.Test.YtkhcfhhejmkikaaGreatDoorMg13
namespace Go.Proofs.YtkhcfhhejmkikaaGreatDoor
open Go.RowKit
set_option maxRecDepth 100000

theorem form_num {z : Int} (h : 0 ≤ z ∧ z ≤ 255) : formE 1 (.mk 1 z ⟨#[]⟩ []) = true := by
  have h1 : fitB 1 z ⟨#[]⟩ 0 = true := by
    unfold fitB
    rw [if_pos rfl, decide_eq_true_eq]
    exact ⟨h.1, h.2, rfl, rfl⟩
  rw [formE_succ, Bool.and_eq_true]
  exact ⟨h1, List.all_eq_true.2 fun k hk => absurd hk (by simp [E.kids])⟩
theorem form_var {s : ByteArray} (h : nameB s = true) : formE 1 (.mk 2 0 s []) = true := by
  have h1 : fitB 2 0 s 0 = true := by
    unfold fitB
    rw [if_neg (by decide), if_pos rfl, Bool.and_eq_true, decide_eq_true_eq]
    exact ⟨⟨rfl, rfl⟩, h⟩
  rw [formE_succ, Bool.and_eq_true]
  exact ⟨h1, List.all_eq_true.2 fun k hk => absurd hk (by simp [E.kids])⟩
theorem form_un {d : Nat} {z : Int} {e : E} (hz : z = 11 ∨ z = 12) (h : formE d e = true) : formE (d + 1) (.mk z 0 ⟨#[]⟩ [e]) = true := by
  have h1 : fitB z 0 ⟨#[]⟩ 1 = true := by
    unfold fitB
    rw [if_neg (by omega), if_neg (by omega), if_neg (by omega), if_pos hz, decide_eq_true_eq]
    exact ⟨rfl, rfl, rfl⟩
  rw [formE_succ, Bool.and_eq_true]
  refine ⟨h1, List.all_eq_true.2 fun k hk => ?_⟩
  have hk' : k ∈ [e] := hk
  simp at hk'
  rw [hk']; exact h
theorem form_bin {d : Nat} {z : Int} {a b : E} (hz : 3 ≤ z ∧ z ≤ 10) (h : formE d a = true) (h' : formE d b = true) : formE (d + 1) (.mk z 0 ⟨#[]⟩ [a, b]) = true := by
  have h1 : fitB z 0 ⟨#[]⟩ 2 = true := by
    unfold fitB
    rw [if_neg (by omega), if_neg (by omega), if_neg (by omega), if_neg (by omega), if_pos hz, decide_eq_true_eq]
    exact ⟨rfl, rfl, rfl⟩
  rw [formE_succ, Bool.and_eq_true]
  refine ⟨h1, List.all_eq_true.2 fun k hk => ?_⟩
  have hk' : k ∈ [a, b] := hk
  simp at hk'
  rcases hk' with rfl | rfl
  · exact h
  · exact h'
theorem form_call {d : Nat} {s : ByteArray} {ks : List E} (hs : nameB s = true) (hl : ks.length ≤ 3) (h : ∀ k ∈ ks, formE d k = true) : formE (d + 1) (.mk 13 0 s ks) = true := by
  have h1 : fitB 13 0 s ks.length = true := by
    unfold fitB
    rw [if_neg (by decide), if_neg (by decide), if_pos rfl, Bool.and_eq_true, decide_eq_true_eq]
    exact ⟨⟨rfl, hl⟩, hs⟩
  rw [formE_succ, Bool.and_eq_true]
  exact ⟨h1, List.all_eq_true.2 h⟩
def LeafRetF (R p : Nat) (w : World) (ee : Ending) (w' : World) : Prop := ∃ (op n : Int) (s : ByteArray), s.size ≤ 8 ∧ formE 1 (.mk op n s []) = true ∧ ee = .returned (.agg #[.int .i64 op, .int .i64 n, .string s, .slice none 0 0]) ∧ DrewT R p w w'
def szB : Nat → Nat
  | 0 => 1
  | 1 => 1
  | n + 2 => 2 * szB (n + 1) + 1
theorem szB_pos : ∀ d, 1 ≤ szB d
  | 0 => Nat.le_refl _
  | 1 => Nat.le_refl _
  | n + 2 => by show 1 ≤ 2 * szB (n + 1) + 1; omega
theorem szB_succ {d : Nat} (h : 1 ≤ d) : szB (d + 1) = 2 * szB d + 1 := by
  obtain ⟨n, rfl⟩ : ∃ n, d = n + 1 := ⟨d - 1, by omega⟩
  rfl
def DrRetF (R p bd dd zb : Nat) (w : World) (ee : Ending) (w' : World) : Prop := ∃ (e : E) (A : Option Addr) (c : Nat), ee = .returned (exV e A c) ∧ DrK w' w.heap.size (.slice A e.kids.length c) e.kids ∧ bulkE e ≤ bd ∧ formE dd e = true ∧ sizeE e ≤ zb ∧ DrewT R p w w'
set_option maxHeartbeats 2000000 in
theorem leaf_namesF (R p b o cap : Nat) (ss : List ByteArray) (w : World) (h : Rd w R p) (hp : p ≤ 900000) (hn1 : 1 ≤ ss.length) (hn2 : ss.length ≤ 1000) (hs : ∀ s ∈ ss, s.size ≤ 8) (hV : ∀ s ∈ ss, nameB s = true) (hN : NmS w R b o ss) :
    Calls Tryz.prog 56 #[.pointer (some ⟨R, 0, none⟩), .slice (some ⟨b, o, none⟩) ss.length cap] w (LeafRetF R (p + 2) w) := by
  have hlt := h.lt
  have q0 : ((ss.length : Int) == 0) = false := beq_no (by omega)
  have hb0 := (Below.refl w.heap.size w).alloc (Nat.le_refl _) (.cells #[.int .i64 0, .int .i64 0, .string ⟨#[]⟩, .slice none 0 0] 24)
  have D0 := Lib.hid (DrewT.below h hb0)
  have R0 := Lib.hid (Res.new w (.int .i64 0) (.int .i64 0) (.string ⟨#[]⟩) (.slice none 0 0) 24)
  have PK := Lib.hid (pick_t R p 3 _ (h.keep hb0) (by omega) (by omega) (by omega))
  have N0 := Lib.hid (hN.touch (Touch.of_below hb0 hlt))
  have HS := Lib.hid hs
  have HV := Lib.hid hV
  clear hN hs hV hb0 h
  go_enter Tryz.func56, Tryz.ntmps56
  go_wp2_with fail
  refine Calls.mono PK.out ?_
  rintro ee w1 ⟨r, hr, rfl, hd1⟩
  have D1 := Lib.hid (D0.out.trans hd1)
  have R1 := Lib.hid (R0.out.touch hd1.2 hlt)
  have N1 := Lib.hid (N0.out.touch hd1.2)
  obtain ⟨p1, hp1, hr1⟩ := hd1.1
  clear hd1 D0 R0 N0 PK q0
  have hl1 := R1.out.lt
  by_cases hz : r = 0
  · subst hz
    have NM := Lib.hid (num_t R p1 [0, 1, 2, 3, 5, 7, 15, 16, 100, 255] w1 3 (0, 0) hr1 (by omega) (by simp) (by simp))
    go_wp2_with fail
    refine Calls.mono NM.out ?_
    rintro ee w2 ⟨z, hz, rfl, hd2⟩
    have HF := Lib.hid (form_num (show 0 ≤ z ∧ z ≤ 255 by simp at hz; omega))
    have D2 := Lib.hid ((D1.out.trans hd2).more (show p1 + 1 ≤ p + 2 by omega))
    have R2 := R1.out.touch hd2.2 hlt
    obtain ⟨c0, c1, c2, c3⟩ := R2.c
    have f0 := R2.f 0
    have f1 := R2.f 1
    have f2 := R2.f 2
    have f3 := R2.f 3
    clear hd2 NM D1 R1 N1 R2 HS
    go_wp2_with fail
    refine bodyPost_ret (v := .agg #[.int .i64 1, .int .i64 z, .string ⟨#[]⟩, .slice none 0 0]) (by simp [results, Tryz.results56, go_sem, c0, c1, c2, c3]) rfl ⟨1, z, ⟨#[]⟩, Nat.zero_le _, HF.out, rfl, ?_⟩
    exact (((D2.out.set (Nat.le_refl _) hlt 0 _).set (Nat.le_refl _) hlt 1 _).set (Nat.le_refl _) hlt 2 _).set (Nat.le_refl _) hlt 3 _
  · have q1 : ((r : Int) == 0) = false := beq_no (by omega)
    have NM := Lib.hid (of_t R p1 b o cap ss w1 hr1 (by omega) hn1 hn2 N1.out)
    go_wp2_with fail
    refine Calls.mono NM.out ?_
    rintro ee w2 ⟨s, hs, rfl, hd2⟩
    have hs8 := HS.out s hs
    have HF := Lib.hid (form_var (HV.out s hs))
    have D2 := Lib.hid ((D1.out.trans hd2).more (show p1 + 1 ≤ p + 2 by omega))
    have R2 := R1.out.touch hd2.2 hlt
    obtain ⟨c0, c1, c2, c3⟩ := R2.c
    have f0 := R2.f 0
    have f1 := R2.f 1
    have f2 := R2.f 2
    have f3 := R2.f 3
    clear hd2 NM D1 R1 N1 R2 HS hs
    go_wp2_with fail
    refine bodyPost_ret (v := .agg #[.int .i64 2, .int .i64 0, .string s, .slice none 0 0]) (by simp [results, Tryz.results56, go_sem, c0, c1, c2, c3]) rfl ⟨2, 0, s, hs8, HF.out, rfl, ?_⟩
    exact (((D2.out.set (Nat.le_refl _) hlt 0 _).set (Nat.le_refl _) hlt 1 _).set (Nat.le_refl _) hlt 2 _).set (Nat.le_refl _) hlt 3 _
set_option maxHeartbeats 2000000 in
theorem l2Expr_lowF (d : Nat) (hd : d < 2) (R p b o cap : Nat) (ss : List ByteArray) (w : World) (h : Rd w R p) (hp : p ≤ 900000) (hn1 : 1 ≤ ss.length) (hn2 : ss.length ≤ 1000) (hs : ∀ s ∈ ss, s.size ≤ 8) (hV : ∀ s ∈ ss, nameB s = true) (hN : NmS w R b o ss) :
    Calls Tryz.prog 85 #[.pointer (some ⟨R, 0, none⟩), .slice (some ⟨b, o, none⟩) ss.length cap, .int .i64 (d : Int)] w (DrRetF R (p + pk d) (bdE d) (d + 1) (szB d) w) := by
  have hlt := h.lt
  have hpk := pk_pos d
  have hbd := bdE_pos d
  have hb0 := (Below.refl w.heap.size w).alloc (Nat.le_refl _) (.cells #[.int .i64 0, .int .i64 0, .string ⟨#[]⟩, .slice none 0 0] 24)
  have D0 := Lib.hid (DrewT.below h hb0)
  have R0 := Lib.hid (Res.new w (.int .i64 0) (.int .i64 0) (.string ⟨#[]⟩) (.slice none 0 0) 24)
  have LF := Lib.hid (leaf_namesF R p b o cap ss _ (h.keep hb0) (by omega) hn1 hn2 hs hV (hN.touch (Touch.of_below hb0 hlt)))
  clear hN hs hV hb0 h
  go_enter Tryz.func85, Tryz.ntmps85
  go_wp2_with fail
  (with_reducible refine Calls.mono LF.out ?_)
  rintro ee w2 ⟨op, n, s, hs, hf, rfl, hd2⟩
  have HF := Lib.hid (form_mono (show 1 ≤ d + 1 by omega) hf)
  clear hf
  have D2 := Lib.hid ((D0.out.trans hd2).more (show p + 2 ≤ p + pk d by omega))
  have R2 := R0.out.touch hd2.2 hlt
  obtain ⟨c0, c1, c2, c3⟩ := R2.c
  have f0 := R2.f 0
  have f1 := R2.f 1
  have f2 := R2.f 2
  have f3 := R2.f 3
  clear hd2 LF D0 R0 R2
  go_wp2_with fail
  refine bodyPost_ret (v := .agg #[.int .i64 op, .int .i64 n, .string s, .slice none 0 0]) (by simp [results, Tryz.results85, go_sem, c0, c1, c2, c3]) rfl ⟨.mk op n s [], none, 0, rfl, DrK.nil _ _, by show s.size + 0 ≤ _; omega, HF.out, szB_pos d, ?_⟩
  exact (((D2.out.set (Nat.le_refl _) hlt 0 _).set (Nat.le_refl _) hlt 1 _).set (Nat.le_refl _) hlt 2 _).set (Nat.le_refl _) hlt 3 _
set_option maxHeartbeats 4000000 in
theorem l2Expr_succF (d : Nat) (hd : d ≤ 10) (hd1 : 1 ≤ d) (R p b o cap : Nat) (ss : List ByteArray) (w : World) (h : Rd w R p) (hp : p + pk (d + 1) ≤ 900000) (hn1 : 1 ≤ ss.length) (hn2 : ss.length ≤ 1000) (hs : ∀ s ∈ ss, s.size ≤ 8) (hV : ∀ s ∈ ss, nameB s = true) (hN : NmS w R b o ss)
    (ih : ∀ (p : Nat) (w : World), Rd w R p → p + pk d ≤ 900000 → NmS w R b o ss → Calls Tryz.prog 85 #[.pointer (some ⟨R, 0, none⟩), .slice (some ⟨b, o, none⟩) ss.length cap, .int .i64 (d : Int)] w (DrRetF R (p + pk d) (bdE d) (d + 1) (szB d) w)) :
    Calls Tryz.prog 85 #[.pointer (some ⟨R, 0, none⟩), .slice (some ⟨b, o, none⟩) ss.length cap, .int .i64 ((d : Int) + 1)] w (DrRetF R (p + pk (d + 1)) (bdE (d + 1)) (d + 1 + 1) (szB (d + 1)) w) := by
  have hlt := h.lt
  have hpk : pk (d + 1) = 2 * pk d + 4 := rfl
  have hbd : bdE (d + 1) = 2 * bdE d + 8 := rfl
  generalize pk (d + 1) = pk1 at *
  generalize bdE (d + 1) = bd1 at *
  have hb0 := (Below.refl w.heap.size w).alloc (Nat.le_refl _) (.cells #[.int .i64 0, .int .i64 0, .string ⟨#[]⟩, .slice none 0 0] 24)
  have D0 := Lib.hid (DrewT.below h hb0)
  have R0 := Lib.hid (Res.new w (.int .i64 0) (.int .i64 0) (.string ⟨#[]⟩) (.slice none 0 0) 24)
  have N0 := Lib.hid (hN.touch (Touch.of_below hb0 hlt))
  have PK := Lib.hid (pick_t R p 4 _ (h.keep hb0) (by omega) (by omega) (by omega))
  have HS := Lib.hid hs
  have HV := Lib.hid hV
  have IH := Lib.hid ih
  have HPK := Lib.hid hpk
  have HBD := Lib.hid hbd
  have hpp : p + 2 * pk d + 4 ≤ 900000 := by omega
  clear hN hs hV hb0 h ih hpk hbd
  go_enter Tryz.func85, Tryz.ntmps85
  go_wp2_with fail
  refine Calls.mono PK.out ?_
  rintro ee w1 ⟨r, hr, rfl, hd1'⟩
  have D1 := Lib.hid (D0.out.trans hd1')
  have R1 := Lib.hid (R0.out.touch hd1'.2 hlt)
  have N1 := Lib.hid (N0.out.touch hd1'.2)
  obtain ⟨p1, hp1, hr1⟩ := hd1'.1
  clear hd1' D0 R0 N0 PK
  by_cases hz : r = 0
  · subst hz
    have LF := Lib.hid (leaf_namesF R p1 b o cap ss _ hr1 (by omega) hn1 hn2 HS.out HV.out N1.out)
    go_wp2_with fail
    (with_reducible refine Calls.mono LF.out ?_)
    rintro ee w2 ⟨op, n, s, hs, hf, rfl, hd2⟩
    have HF := Lib.hid (form_mono (show 1 ≤ d + 1 + 1 by omega) hf)
    clear hf
    have D2 := Lib.hid ((D1.out.trans hd2).more (show p1 + 2 ≤ p + pk1 by have := HPK.out; omega))
    have R2 := R1.out.touch hd2.2 hlt
    obtain ⟨c0, c1, c2, c3⟩ := R2.c
    have f0 := R2.f 0
    have f1 := R2.f 1
    have f2 := R2.f 2
    have f3 := R2.f 3
    clear hd2 LF D1 R1 R2
    go_wp2_with fail
    refine bodyPost_ret (v := .agg #[.int .i64 op, .int .i64 n, .string s, .slice none 0 0]) (by simp [results, Tryz.results85, go_sem, c0, c1, c2, c3]) rfl ⟨.mk op n s [], none, 0, rfl, DrK.nil _ _, by show s.size + 0 ≤ _; have := HBD.out; omega, HF.out, szB_pos (d + 1), ?_⟩
    exact (((D2.out.set (Nat.le_refl _) hlt 0 _).set (Nat.le_refl _) hlt 1 _).set (Nat.le_refl _) hlt 2 _).set (Nat.le_refl _) hlt 3 _
  · have q1 : ((r : Int) == 0) = false := beq_no (by omega)
    have PK := Lib.hid (pick_t R p1 7 _ hr1 (by omega) (by omega) (by omega))
    go_wp2_with fail
    refine Calls.mono PK.out ?_
    rintro ee w2 ⟨r2, hr2, rfl, hd2'⟩
    have D2 := Lib.hid (D1.out.trans hd2')
    have R2 := Lib.hid (R1.out.touch hd2'.2 hlt)
    have N2 := Lib.hid (N1.out.touch hd2'.2)
    obtain ⟨p2, hp2, hr2'⟩ := hd2'.1
    clear hd2' D1 R1 N1 PK q1 hr1
    by_cases hz2 : r2 = 0
    · subst hz2
      have NM := Lib.hid (num_t R p2 [11, 12, 11] w2 3 (0, 0) hr2' (by omega) (by simp) (by simp))
      go_wp2_with fail
      refine Calls.mono NM.out ?_
      rintro ee w3 ⟨z, hzz, rfl, hd3'⟩
      have HZ := Lib.hid (show z = 11 ∨ z = 12 by simp at hzz; omega)
      clear hzz
      have D3 := Lib.hid (D2.out.trans hd3')
      have R3 := Lib.hid (R2.out.touch hd3'.2 hlt)
      have N3 := N2.out.touch hd3'.2
      obtain ⟨p3, hp3, hr3⟩ := hd3'.1
      have I3 := Lib.hid (IH.out p3 w3 hr3 (by omega) N3)
      clear hd3' D2 R2 N2 NM N3 hr3
      go_wp2_with fail
      (with_reducible refine Calls.mono I3.out ?_)
      rintro ee w4 ⟨e1, A1, cc1, rfl, hk1, hbk1, hf1, hsz1, hd4⟩
      have HF1 := Lib.hid hf1
      clear hf1
      unfold exV
      have hl3 := R3.out.lt
      have R4 := R3.out.touch hd4.2 hlt
      have KL := Lib.hid (DrK.lit [⟨e1, A1, cc1⟩] (w := w4) (lo := w3.heap.size) hd4.2.below.size (by simp) (fun k hk => by simp at hk; subst hk; exact hk1))
      have hb5 := (Below.refl w4.heap.size w4).alloc (Nat.le_refl _) (.cells #[.int .i64 e1.op, .int .i64 e1.n, .string e1.name, .slice A1 e1.kids.length cc1] 24)
      obtain ⟨p4, hp4, hr4⟩ := hd4.1
      have D5 := Lib.hid (((D3.out.trans hd4).trans (DrewT.below hr4 hb5)).more (show p4 ≤ p + pk1 by have := HPK.out; omega))
      have R5 := R4.touch (Touch.of_below hb5 hr4.lt) hlt
      obtain ⟨c0, c1, c2, c3⟩ := R5.c
      have f0 := R5.f 0
      have f1 := R5.f 1
      have f2 := R5.f 2
      have f3 := R5.f 3
      clear hd4 D3 R3 R4 R5 I3 hb5 hr4 hk1
      go_wp2_with fail
      refine bodyPost_ret (v := .agg #[.int .i64 z, .int .i64 0, .string ⟨#[]⟩, .slice (some ⟨w4.heap.size, 0, none⟩) 1 1]) (by simp [results, Tryz.results85, go_sem, c0, c1, c2, c3]) rfl ⟨.mk z 0 ⟨#[]⟩ [e1], some ⟨w4.heap.size, 0, none⟩, 1, rfl, ?_, by show 0 + (1 + bulkE e1 + 0) ≤ _; have := HBD.out; omega, form_un HZ.out HF1.out, by show 1 + (sizeE e1 + 0) ≤ _; have := szB_succ hd1; omega, ?_⟩
      · exact (((((KL.out.set hl3 0 _).set hl3 1 _).set hl3 2 _).set hl3 3 _)).wide (Nat.le_of_lt hl3)
      · exact (((D5.out.set (Nat.le_refl _) hlt 0 _).set (Nat.le_refl _) hlt 1 _).set (Nat.le_refl _) hlt 2 _).set (Nat.le_refl _) hlt 3 _
    · have q2 : ((r2 : Int) == 0) = false := beq_no (by omega)
      have NM := Lib.hid (num_t R p2 [3, 3, 4, 5, 6, 7, 8, 9, 10] w2 3 (0, 0) hr2' (by omega) (by simp) (by simp))
      go_wp2_with fail
      refine Calls.mono NM.out ?_
      rintro ee w3 ⟨z, hzz, rfl, hd3'⟩
      have HZ := Lib.hid (show 3 ≤ z ∧ z ≤ 10 by simp at hzz; omega)
      clear hzz
      have D3 := Lib.hid (D2.out.trans hd3')
      have R3 := Lib.hid (R2.out.touch hd3'.2 hlt)
      have N3 := Lib.hid (N2.out.touch hd3'.2)
      obtain ⟨p3, hp3, hr3⟩ := hd3'.1
      have I3 := Lib.hid (IH.out p3 w3 hr3 (by omega) N3.out)
      have hl3 := R3.out.lt
      clear hd3' D2 R2 N2 NM hr3 q2
      go_wp2_with fail
      (with_reducible refine Calls.mono I3.out ?_)
      rintro ee w4 ⟨e1, A1, cc1, rfl, hk1, hbk1, hf1, hsz1, hd4⟩
      have HF1 := Lib.hid hf1
      clear hf1
      unfold exV
      have D4 := Lib.hid (D3.out.trans hd4)
      have R4 := Lib.hid (R3.out.touch hd4.2 hlt)
      have N4 := N3.out.touch hd4.2
      obtain ⟨p4, hp4, hr4⟩ := hd4.1
      have I4 := Lib.hid (IH.out p4 w4 hr4 (by omega) N4)
      have hs34 := hd4.2.below.size
      have HK1 := Lib.hid hk1
      clear hd4 D3 R3 N3 I3 N4 hr4 hk1
      go_wp2_with fail
      (with_reducible refine Calls.mono I4.out ?_)
      rintro ee w5 ⟨e2, A2, cc2, rfl, hk2, hbk2, hf2, hsz2, hd5⟩
      have HF2 := Lib.hid hf2
      clear hf2
      unfold exV
      have hRl : R < w3.heap.size := Nat.lt_trans hlt hl3
      have KL := Lib.hid (DrK.lit [⟨e1, A1, cc1⟩, ⟨e2, A2, cc2⟩] (w := w5) (lo := w3.heap.size) (Nat.le_trans hs34 hd5.2.below.size) (by simp) (fun k hk => by
        simp at hk
        rcases hk with rfl | rfl
        · exact HK1.out.touch hd5.2 hRl
        · exact hk2.wide hs34))
      have hb6 := (Below.refl w5.heap.size w5).alloc (Nat.le_refl _) (.cells #[.int .i64 e1.op, .int .i64 e1.n, .string e1.name, .slice A1 e1.kids.length cc1, .int .i64 e2.op, .int .i64 e2.n, .string e2.name, .slice A2 e2.kids.length cc2] 24)
      obtain ⟨p5, hp5, hr5⟩ := hd5.1
      have D6 := Lib.hid (((D4.out.trans hd5).trans (DrewT.below hr5 hb6)).more (show p5 ≤ p + pk1 by have := HPK.out; omega))
      have R6 := (R4.out.touch hd5.2 hlt).touch (Touch.of_below hb6 hr5.lt) hlt
      obtain ⟨c0, c1, c2, c3⟩ := R6.c
      have f0 := R6.f 0
      have f1 := R6.f 1
      have f2 := R6.f 2
      have f3 := R6.f 3
      clear hd5 D4 R4 R6 I4 hb6 hr5 hk2 HK1
      go_wp2_with fail
      refine bodyPost_ret (v := .agg #[.int .i64 z, .int .i64 0, .string ⟨#[]⟩, .slice (some ⟨w5.heap.size, 0, none⟩) 2 2]) (by simp [results, Tryz.results85, go_sem, c0, c1, c2, c3]) rfl ⟨.mk z 0 ⟨#[]⟩ [e1, e2], some ⟨w5.heap.size, 0, none⟩, 2, rfl, ?_, by show 0 + (1 + bulkE e1 + (1 + bulkE e2 + 0)) ≤ _; have := HBD.out; omega, form_bin HZ.out HF1.out HF2.out, by show 1 + (sizeE e1 + (sizeE e2 + 0)) ≤ _; have := szB_succ hd1; omega, ?_⟩
      · exact (((((KL.out.set hl3 0 _).set hl3 1 _).set hl3 2 _).set hl3 3 _)).wide (Nat.le_of_lt hl3)
      · exact (((D6.out.set (Nat.le_refl _) hlt 0 _).set (Nat.le_refl _) hlt 1 _).set (Nat.le_refl _) hlt 2 _).set (Nat.le_refl _) hlt 3 _
theorem l2Expr_F (R b o cap : Nat) (ss : List ByteArray) (hn1 : 1 ≤ ss.length) (hn2 : ss.length ≤ 1000) (hs : ∀ s ∈ ss, s.size ≤ 8) (hV : ∀ s ∈ ss, nameB s = true) : ∀ (d : Nat) (_ : d ≤ 10) (p : Nat) (w : World), Rd w R p → p + pk d ≤ 900000 → NmS w R b o ss →
    Calls Tryz.prog 85 #[.pointer (some ⟨R, 0, none⟩), .slice (some ⟨b, o, none⟩) ss.length cap, .int .i64 (d : Int)] w (DrRetF R (p + pk d) (bdE d) (d + 1) (szB d) w)
  | 0, _, p, w, h, hp, hN => l2Expr_lowF 0 (by omega) R p b o cap ss w h (by omega) hn1 hn2 hs hV hN
  | 1, _, p, w, h, hp, hN => l2Expr_lowF 1 (by omega) R p b o cap ss w h (by omega) hn1 hn2 hs hV hN
  | d + 2, hd, p, w, h, hp, hN => by
    rw [show ((d + 2 : Nat) : Int) = ((d + 1 : Nat) : Int) + 1 by omega]
    exact l2Expr_succF (d + 1) (by omega) (by omega) R p b o cap ss w h hp hn1 hn2 hs hV hN (fun p w h1 h2 h3 => l2Expr_F R b o cap ss hn1 hn2 hs hV (d + 1) (by omega) p w h1 h2 h3)
theorem name_one (b : UInt8) (h : cls b.toNat = 1) (hk : isKeyB ⟨#[b]⟩ = false) : nameB ⟨#[b]⟩ = true :=
  nameB_yes (s := ⟨#[b]⟩) (show 0 < 1 by decide) (show 1 ≤ 4 by decide) hk (fun j hj _ => by
    obtain rfl : j = 0 := by have h1 : j < 1 := hj; omega
    exact h)
theorem name_go : nameB ⟨#[103, 111]⟩ = true :=
  nameB_yes (s := ⟨#[103, 111]⟩) (show 0 < 2 by decide) (show 2 ≤ 4 by decide) (by decide) (fun j hj _ => by
    have h1 : j < 2 := hj
    rcases (show j = 0 ∨ j = 1 by omega) with rfl | rfl
    · show cls 103 = 1; decide
    · show cls 111 = 1; decide)
theorem nmA_name : ∀ s ∈ nmA, nameB s = true := by
  intro s hs
  simp only [nmA, List.mem_cons, List.not_mem_nil, or_false] at hs
  rcases hs with rfl | rfl | rfl | rfl
  · exact name_one _ (by decide) (by decide)
  · exact name_one _ (by decide) (by decide)
  · exact name_one _ (by decide) (by decide)
  · exact name_go
theorem nmB2_name : ∀ s ∈ nmB2, nameB s = true := by
  intro s hs
  simp only [nmB2, List.mem_cons, List.not_mem_nil, or_false] at hs
  rcases hs with rfl | rfl
  · exact name_one _ (by decide) (by decide)
  · exact name_one _ (by decide) (by decide)
theorem nmF_name : ∀ s ∈ ([⟨#[102]⟩, ⟨#[103]⟩, ⟨#[97]⟩] : List ByteArray), nameB s = true := by
  intro s hs
  simp only [List.mem_cons, List.not_mem_nil, or_false] at hs
  rcases hs with rfl | rfl | rfl
  · exact name_one _ (by decide) (by decide)
  · exact name_one _ (by decide) (by decide)
  · exact name_one _ (by decide) (by decide)
theorem forms_snoc {d : Nat} {ks : List E} {e : E} (h : ∀ k ∈ ks, formE d k = true) (he : formE d e = true) : ∀ k ∈ ks ++ [e], formE d k = true := by
  intro k hk
  rcases List.mem_append.1 hk with hk | hk
  · exact h k hk
  · simp at hk; rw [hk]; exact he
def AnyRelF (w0 : World) (R lo p bc : Nat) (nm : ByteArray) (gk : Nat) (c : Value) (wr : World) : Prop :=
  ∃ (k : Nat) (v : Value) (ks : List E), c = .int .i64 k ∧ k = gk ∧ k + ks.length ≤ 3 ∧ Res wr bc (.int .i64 13) (.int .i64 0) (.string nm) v ∧ DrK wr lo v ks ∧ bulkL ks ≤ ks.length * 100 ∧ sizeL ks ≤ ks.length * 3 ∧ (∀ k ∈ ks, formE 3 k = true) ∧ DrewT R (p + ks.length * 40) w0 wr
set_option maxHeartbeats 4000000 in
theorem l2Any_F (R p d : Nat) (hd : d ≤ 10) (w : World) (h : Rd w R p) (hp : p + pk d + 200 ≤ 900000) :
    Calls Tryz.prog 48 #[.pointer (some ⟨R, 0, none⟩), .int .i64 (d : Int)] w (DrRetF R (p + pk d + 150) (bdE d + 400) (d + 5) (szB d + 11) w) := by
  have hlt := h.lt
  have hb0 := (Below.refl w.heap.size w).alloc (Nat.le_refl _) (.cells #[.int .i64 0, .int .i64 0, .string ⟨#[]⟩, .slice none 0 0] 24)
  have hz0 : (w.alloc (.cells #[.int .i64 0, .int .i64 0, .string ⟨#[]⟩, .slice none 0 0] 24)).heap.size = w.heap.size + 1 := World.size_alloc _ _
  have D0 := Lib.hid (DrewT.below h hb0)
  have R0 := Lib.hid (Res.new w (.int .i64 0) (.int .i64 0) (.string ⟨#[]⟩) (.slice none 0 0) 24)
  have hr0 := h.keep hb0
  have LX := l2Expr_F R (w.heap.size + 1) 0 4 nmA (by decide) (by decide) nmA_size nmA_name d hd p ((w.alloc (.cells #[.int .i64 0, .int .i64 0, .string ⟨#[]⟩, .slice none 0 0] 24)).alloc (.cells (nmA.map Value.string).toArray 9 (0, 0))) (hr0.alloc _) (by omega) (by have h1 := NmS.lit (w := w.alloc (.cells #[.int .i64 0, .int .i64 0, .string ⟨#[]⟩, .slice none 0 0] 24)) nmA 9 (0, 0) hr0.lt; rw [hz0] at h1; exact h1)
  have D1 := Lib.hid (D0.out.trans (DrewT.below hr0 ((Below.refl _ _).alloc (Nat.le_refl _) (.cells (nmA.map Value.string).toArray 9 (0, 0)))))
  have R1 := Lib.hid (R0.out.touch (Touch.of_below ((Below.refl _ _).alloc (Nat.le_refl _) (.cells (nmA.map Value.string).toArray 9 (0, 0))) hr0.lt) hlt)
  have hw1 : w.heap.size < ((w.alloc (.cells #[.int .i64 0, .int .i64 0, .string ⟨#[]⟩, .slice none 0 0] 24)).alloc (.cells (nmA.map Value.string).toArray 9 (0, 0))).heap.size := R1.out.lt
  have HW1 := Lib.hid hw1
  replace LX := Lib.hid LX
  clear h hb0 hr0 hz0 D0 R0 hw1
  go_enter Tryz.func48, Tryz.ntmps48
  go_wp2_with fail
  refine Calls.mono LX.out ?_
  rintro ee w1 ⟨e1, A1, cc1, rfl, hk1, hbk1, hf1, hsz1, hd1⟩
  have HF1 := Lib.hid hf1
  clear hf1
  unfold exV
  have D2 := Lib.hid (D1.out.trans hd1)
  have R2 := Lib.hid (R1.out.touch hd1.2 hlt)
  have K1 := Lib.hid (hk1.wide HW1.out)
  obtain ⟨p1, hp1, hr1⟩ := hd1.1
  clear hk1 hd1 D1 R1 LX HW1
  have hR1 : R < w1.heap.size := hr1.lt
  have hb2 := (Below.refl w1.heap.size w1).alloc (Nat.le_refl _) (.cells #[.int .i64 e1.op, .int .i64 e1.n, .string e1.name, .slice A1 e1.kids.length cc1] 24)
  have D3 := Lib.hid (D2.out.trans (DrewT.below hr1 hb2))
  have R3 := Lib.hid (R2.out.touch (Touch.of_below hb2 hR1) hlt)
  have X3 := Lib.hid (Res.new w1 (.int .i64 e1.op) (.int .i64 e1.n) (.string e1.name) (.slice A1 e1.kids.length cc1) 24)
  have K3 := Lib.hid (K1.out.touch (Touch.of_below hb2 hR1) (by omega))
  have hr3 := hr1.keep hb2
  go_wp2_with fail
  generalize w1.alloc (.cells #[.int .i64 e1.op, .int .i64 e1.n, .string e1.name, .slice A1 e1.kids.length cc1] 24) = w2 at *
  have PK := Lib.hid (pick_t R p1 3 w2 hr3 (by omega) (by omega) (by omega))
  clear D2 R2 K1 hr1 hb2 hr3
  refine Calls.mono PK.out ?_
  rintro ee w3 ⟨r, hr, rfl, hd3⟩
  have D4 := Lib.hid (D3.out.trans hd3)
  have R4 := Lib.hid (R3.out.touch hd3.2 hlt)
  have X4 := Lib.hid (X3.out.touch hd3.2 hR1)
  have K4 := Lib.hid (K3.out.touch hd3.2 (by omega))
  obtain ⟨p3, hp3, hr3⟩ := hd3.1
  clear hd3 D3 R3 X3 K3 PK
  by_cases hz : r = 0
  · subst hz
    have OF := Lib.hid (oflit_t R p3 [⟨#[102]⟩, ⟨#[103]⟩, ⟨#[97]⟩] w3 9 (0, 0) hr3 (by omega) (by decide) (by decide))
    go_wp2_with fail
    refine Calls.mono OF.out ?_
    rintro ee w4 ⟨nm, hnm, rfl, hd4⟩
    have HNM := Lib.hid (nmF_name nm hnm)
    have hnm8 : nm.size ≤ 8 := (show ∀ s ∈ ([⟨#[102]⟩, ⟨#[103]⟩, ⟨#[97]⟩] : List ByteArray), s.size ≤ 8 by decide) nm hnm
    have D5 := Lib.hid (D4.out.trans hd4)
    have R5 := Lib.hid (R4.out.touch hd4.2 hlt)
    have X5 := Lib.hid (X4.out.touch hd4.2 hR1)
    have K5 := Lib.hid (K4.out.touch hd4.2 (by omega))
    obtain ⟨p4, hp4, hr4⟩ := hd4.1
    have hR4 : R < w4.heap.size := hr4.lt
    clear hd4 D4 R4 X4 K4 OF hnm hr3
    have hb5 := (Below.refl w4.heap.size w4).alloc (Nat.le_refl _) (.cells #[.int .i64 13, .int .i64 0, .string nm, .slice none 0 0] 24)
    have C5 := Lib.hid (Res.new w4 (.int .i64 13) (.int .i64 0) (.string nm) (.slice none 0 0) 24)
    have E5 := Lib.hid (DrewT.below hr4 hb5)
    have hr5 := hr4.keep hb5
    have hlo : w4.heap.size < (w4.alloc (.cells #[.int .i64 13, .int .i64 0, .string nm, .slice none 0 0] 24)).heap.size := by rw [World.size_alloc]; omega
    go_wp2_with fail
    generalize w4.alloc (.cells #[.int .i64 13, .int .i64 0, .string nm, .slice none 0 0] 24) = w5 at *
    have PK := Lib.hid (pick_t R p4 4 w5 hr5 (by omega) (by omega) (by omega))
    clear hb5 hr5
    refine Calls.mono PK.out ?_
    rintro ee w6 ⟨k0, hk0, rfl, hd6⟩
    have AR0 := Lib.hid (show AnyRelF w4 R (w4.heap.size + 1) (p4 + 1) w4.heap.size nm k0 (.int .i64 (k0 : Int)) w6 from ⟨k0, _, [], rfl, rfl, by show k0 + 0 ≤ 3; omega, C5.out.touch hd6.2 hR4, DrK.nil _ _, Nat.le_refl _, Nat.zero_le _, fun k hk => absurd hk (by simp), (E5.out.trans hd6).more (Nat.le_refl _)⟩)
    clear hd6 PK C5 E5 hr4
    go_wp2_with fail
    go_loopg [7] k0 (fun gk c wr => AnyRelF w4 R (w4.heap.size + 1) (p4 + 1) w4.heap.size nm gk c wr)
    case atStart => exact AR0.out
    case round =>
      clear AR0
      obtain ⟨k, v, ks, rfl, rfl, hk3, hC, hKv, hbv, hzv, hfv, hD⟩ := hrel
      have HFV := Lib.hid hfv
      clear hfv
      by_cases hk : k = 0
      · subst hk
        obtain ⟨Av, cv, rfl⟩ := hKv.slice
        obtain ⟨p6, hp6, hr6⟩ := hD.1
        have hks : ks.length ≤ 3 := by omega
        have hw4 := R5.out.lt
        have PK := Lib.hid (pick_t R p6 2 wr hr6 (by omega) (by omega) (by omega))
        have C6 := Lib.hid hC
        have V6 := Lib.hid hKv
        have R6 := Lib.hid (R5.out.touch hD.2 hlt)
        have X6 := Lib.hid (X5.out.touch hD.2 hR1)
        have K6 := Lib.hid (K5.out.touch hD.2 (by omega))
        have D6 := Lib.hid (D5.out.trans hD)
        clear hC hKv hD hr6 R5 X5 K5 D5
        go_wp2_with fail
        refine Calls.mono PK.out ?_
        rintro ee w7 ⟨r7, hr7, rfl, hd7⟩
        have C7 := C6.out.touch hd7.2 hR4
        have V7 := Lib.hid (V6.out.touch hd7.2 (by omega))
        have R7 := R6.out.touch hd7.2 hlt
        have X7 := X6.out.touch hd7.2 hR1
        have K7 := Lib.hid (K6.out.touch hd7.2 (by omega))
        have D7 := Lib.hid (D6.out.trans hd7)
        obtain ⟨p7, hp7, hr7'⟩ := hd7.1
        clear hd7 C6 V6 R6 X6 K6 D6 PK
        by_cases hz7 : r7 = 0
        · subst hz7
          obtain ⟨c0, c1, c2, c3⟩ := R7.c
          have f0 := R7.f 0
          have f1 := R7.f 1
          have f2 := R7.f 2
          have f3 := R7.f 3
          obtain ⟨d0, d1, d2, d3⟩ := C7.c
          clear R7 X7 C7
          go_wp2_with fail
          refine bodyPost_ret (v := .agg #[.int .i64 13, .int .i64 0, .string nm, .slice Av ks.length cv]) (by simp [results, Tryz.results48, go_sem, c0, c1, c2, c3]) rfl ⟨.mk 13 0 nm ks, Av, cv, rfl, ?_, by show nm.size + bulkL ks ≤ _; omega, form_mono (show 3 + 1 ≤ d + 5 by omega) (form_call HNM.out hks HFV.out), by show 1 + sizeL ks ≤ _; have := szB_pos d; omega, ?_⟩
          · have hq : w.heap.size < w4.heap.size + 1 := by omega
            exact (((((V7.out.set hq 0 _).set hq 1 _).set hq 2 _).set hq 3 _)).wide (Nat.le_of_lt hq)
          · exact ((((D7.out.set (Nat.le_refl _) hlt 0 _).set (Nat.le_refl _) hlt 1 _).set (Nat.le_refl _) hlt 2 _).set (Nat.le_refl _) hlt 3 _).more (by omega)
        · have q7 : ((r7 : Int) == 0) = false := beq_no (by omega)
          have KL := Lib.hid (DrK.lit [⟨e1, A1, cc1⟩, ⟨.mk 13 0 nm ks, Av, cv⟩] (w := w7) (lo := w.heap.size + 1) R7.lt (by simp) (fun k hk => by
            simp at hk
            rcases hk with rfl | rfl
            · exact K7.out
            · exact V7.out.wide (by omega)))
          have hb8 := (Below.refl w7.heap.size w7).alloc (Nat.le_refl _) (.cells #[.int .i64 e1.op, .int .i64 e1.n, .string e1.name, .slice A1 e1.kids.length cc1, .int .i64 13, .int .i64 0, .string nm, .slice Av ks.length cv] 24)
          have D8 := Lib.hid (D7.out.step hb8)
          have R8 := R7.touch (Touch.of_below hb8 hr7'.lt) hlt
          obtain ⟨c0, c1, c2, c3⟩ := R8.c
          have f0 := R8.f 0
          have f1 := R8.f 1
          have f2 := R8.f 2
          have f3 := R8.f 3
          obtain ⟨d0, d1, d2, d3⟩ := C7.c
          obtain ⟨x0, x1, x2, x3⟩ := X7.c
          clear R7 X7 C7 R8 V7 K7 D7 hb8 hr7'
          go_wp2_with fail
          refine bodyPost_ret (v := .agg #[.int .i64 3, .int .i64 0, .string ⟨#[]⟩, .slice (some ⟨w7.heap.size, 0, none⟩) 2 2]) (by simp [results, Tryz.results48, go_sem, c0, c1, c2, c3]) rfl ⟨.mk 3 0 ⟨#[]⟩ [e1, .mk 13 0 nm ks], some ⟨w7.heap.size, 0, none⟩, 2, rfl, ?_, by show 0 + (1 + bulkE e1 + (1 + (nm.size + bulkL ks) + 0)) ≤ _; omega, form_bin (by omega) (form_mono (show d + 1 ≤ d + 4 by omega) HF1.out) (form_mono (show 3 + 1 ≤ d + 4 by omega) (form_call HNM.out hks HFV.out)), by show 1 + (sizeE e1 + (1 + sizeL ks + 0)) ≤ _; omega, ?_⟩
          · have hq : w.heap.size < w.heap.size + 1 := by omega
            exact (((((KL.out.set hq 0 _).set hq 1 _).set hq 2 _).set hq 3 _)).wide (Nat.le_of_lt hq)
          · exact ((((D8.out.set (Nat.le_refl _) hlt 0 _).set (Nat.le_refl _) hlt 1 _).set (Nat.le_refl _) hlt 2 _).set (Nat.le_refl _) hlt 3 _).more (by omega)
      · obtain ⟨Av, cv, rfl⟩ := hKv.slice
        obtain ⟨p6, hp6, hr6⟩ := hD.1
        have hks : ks.length ≤ 3 := by omega
        have hlr := hC.lt
        have hRr : R < wr.heap.size := hr6.lt
        have hbl := (Below.refl wr.heap.size wr).alloc (Nat.le_refl _) (.cells (nmB2.map Value.string).toArray 9 (0, 0))
        have LX := Lib.hid (l2Expr_F R wr.heap.size 0 2 nmB2 (by decide) (by decide) nmB2_size nmB2_name 2 (by omega) p6 ((wr.alloc (.cells (nmB2.map Value.string).toArray 9 (0, 0))).drew) ((hr6.alloc _).drew) (by show _ + 28 ≤ _; omega) (NmS.lit (w := wr) nmB2 9 (0, 0) hRr))
        have C6 := Lib.hid (show Res ((wr.alloc (.cells (nmB2.map Value.string).toArray 9 (0, 0))).drew) w4.heap.size _ _ _ _ from hC.touch (Touch.of_below hbl.drew hRr) hR4)
        have V6 := Lib.hid (show DrK ((wr.alloc (.cells (nmB2.map Value.string).toArray 9 (0, 0))).drew) (w4.heap.size + 1) _ ks from hKv.touch (Touch.of_below hbl.drew hRr) (by omega))
        have D6 := Lib.hid (hD.trans (DrewT.below hr6 hbl.drew))
        have HV := Lib.hid hKv.owned
        obtain ⟨c0, c1, c2, c3⟩ := hC.c
        have q1 : (0 : Int) < k := by omega
        obtain ⟨i0, hi, hz0, hz1, hz2⟩ := info_parts exprInfo
        have HLB := Lib.hid (show (ks.length + 1 ≤ maxLen ∧ (ks.length + 1) * 56 ≤ 140737488355328) from ⟨by unfold maxLen; omega, by omega⟩)
        have hR41 : R < w4.heap.size + 1 := by omega
        have hne : some w4.heap.size ≠ (Value.slice Av ks.length cv).ownBlock := fun e => by have := HV.out _ e.symm; omega
        clear hKv hD hr6
        obtain ⟨b0, b1, b2, b3⟩ := C6.out.c
        go_wp2_with fail
        go_region_law (first
          | (refine step_append_lies _ rfl _ _ 22 rfl (w4.heap.size + 1) 24 i0 (.agg #[.int .i64 0, .int .i64 0, .string ⟨#[]⟩, .slice none 0 0]) 4 56 Tryz.underlying22 hi hz0 hz1 hz2 rfl (by decide) _ ks.length xs7 rfl HOW.out ⟨w7.heap.size, 0, none⟩ 1 1 (Kd.mk e7 A7 cc7).cells rfl rfl HNW.out HTO.out (by decide) HLB.out.1 HLB.out.2 hbz _ rfl ?_; intro g8 cap8 w8 hown8 hgrow8 hat8 hlt8; have C8 := Lib.hid (C7.out.grow hgrow8 hne); have H8 := Lib.hid (And.intro hown8 (And.intro hgrow8 hat8)); obtain ⟨k0, k1, k2, k3⟩ := C8.out.c; have f3 := C8.out.f 3; clear hown8 hgrow8 hat8)
          | (go_simp; go_at_call 85; refine Calls.mono LX.out ?_; rintro ee w7 ⟨e7, A7, cc7, rfl, hk7, hb7, hf7, hz7, hd7⟩; have HF7 := Lib.hid hf7; clear hf7; unfold exV; have hr7 := Lib.hid hd7.1; have hal := (Below.refl w7.heap.size w7).alloc (Nat.le_refl _) (.cells #[.int .i64 e7.op, .int .i64 e7.n, .string e7.name, .slice A7 e7.kids.length cc7] 24); have hR7 := DrewT.lt hd7; have C6' := Lib.hid (C6.out.touch hd7.2 hR4); have C7 := Lib.hid (C6'.out.touch (Touch.of_below hal hR7) hR4); have V7 := (V6.out.touch hd7.2 hR41).touch (Touch.of_below hal hR7) hR41; obtain ⟨xs7, ho7, hx7⟩ := V7; obtain ⟨m0, m1, m2, m3⟩ := C6'.out.c; obtain ⟨n0, n1, n2, n3⟩ := C7.out.c; have HOW := Lib.hid ho7; have HX7 := Lib.hid hx7; have HNW := Lib.hid (new_four w7 (.int .i64 e7.op) (.int .i64 e7.n) (.string e7.name) (.slice A7 e7.kids.length cc7) 24); have HTO := Lib.hid (kid_cells e7 A7 cc7); have HK7 := Lib.hid hk7; have HD7 := Lib.hid hd7; have HAL := Lib.hid hal; have hbz : w4.heap.size + 1 ≤ (w7.alloc (.cells #[.int .i64 e7.op, .int .i64 e7.n, .string e7.name, .slice A7 e7.kids.length cc7] 24)).heap.size := Nat.le_trans (Nat.le_trans hlr (Nat.le_trans hbl.size hd7.2.below.size)) hal.size; clear ho7 hx7 hk7 hd7 hal))
        all_goals
          obtain ⟨hown8, hgrow8, hat8⟩ := H8.out
          have hv0 : (Value.slice Av ks.length cv).ownBlock = some g8 ∨ g8 = (w7.alloc (.cells #[.int .i64 e7.op, .int .i64 e7.n, .string e7.name, .slice A7 e7.kids.length cc7] 24)).heap.size := hat8
          have hlo7 : w4.heap.size + 1 ≤ ((wr.alloc (.cells (nmB2.map Value.string).toArray 9 (0, 0))).drew).heap.size := Nat.le_trans hlr hbl.size
          have SN := Lib.hid (DrK.snoc (w := w7.alloc (.cells #[.int .i64 e7.op, .int .i64 e7.n, .string e7.name, .slice A7 e7.kids.length cc7] 24)) ⟨e7, A7, cc7⟩ HX7.out HOW.out.1 rfl hown8 hgrow8 hv0 ((HK7.out.touch (Touch.of_below HAL.out hR7) (Nat.lt_of_lt_of_le hR41 hlo7)).apart hlo7 (fun k e => Nat.lt_of_lt_of_le (HV.out k e).2 hbl.size)))
          have DG := Lib.hid (((D6.out.trans HD7.out).step HAL.out).grow hgrow8 (fun k e => by have := (HV.out k e).1; omega) hR4)
          clear hown8 hgrow8 hat8 hv0 m0 m1 m2 m3 n0 n1 n2 n3
          go_wp2_with fail
          go_roundg (k - 1)
          case measure => omega
          case rel => exact ⟨k - 1, _, ks ++ [e7], by go_num, rfl, by rw [List.length_append]; show k - 1 + (ks.length + 1) ≤ 3; omega, C8.out.set3 _, SN.out.set (Nat.lt_succ_self _) 3 _, by rw [bulkL_snoc, List.length_append]; have h7 : bulkE e7 ≤ 56 := hb7; show _ ≤ (ks.length + 1) * 100; omega, by rw [sizeL_app, sizeL_one, List.length_append]; have h7 : sizeE e7 ≤ 3 := hz7; show _ ≤ (ks.length + 1) * 3; omega, forms_snoc HFV.out HF7.out, ((DG.out.set (Nat.le_refl _) hR4 3 _)).more (by rw [List.length_append]; show p6 + 28 ≤ p4 + 1 + (ks.length + 1) * 40; omega)⟩
  · have q1 : (0 : Int) < (r : Int) := by omega
    have R5 := R4.out
    have X5 := X4.out
    obtain ⟨c0, c1, c2, c3⟩ := R5.c
    have f0 := R5.f 0
    have f1 := R5.f 1
    have f2 := R5.f 2
    have f3 := R5.f 3
    obtain ⟨x0, x1, x2, x3⟩ := X5.c
    clear R5 X5 R4 X4
    go_wp2_with fail
    refine bodyPost_ret (v := .agg #[.int .i64 e1.op, .int .i64 e1.n, .string e1.name, .slice A1 e1.kids.length cc1]) (by simp [results, Tryz.results48, go_sem, c0, c1, c2, c3]) rfl ⟨e1, A1, cc1, rfl, ?_, by omega, form_mono (show d + 1 ≤ d + 5 by omega) HF1.out, by omega, ?_⟩
    · have hq : w.heap.size < w.heap.size + 1 := by omega
      exact (((((K4.out.set hq 0 _).set hq 1 _).set hq 2 _).set hq 3 _)).wide (Nat.le_of_lt hq)
    · exact ((((D4.out.set (Nat.le_refl _) hlt 0 _).set (Nat.le_refl _) hlt 1 _).set (Nat.le_refl _) hlt 2 _).set (Nat.le_refl _) hlt 3 _).more (by omega)
end Go.Proofs.YtkhcfhhejmkikaaGreatDoor
