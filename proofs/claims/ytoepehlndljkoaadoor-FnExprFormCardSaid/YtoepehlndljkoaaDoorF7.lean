/-
  Texts of expressions: ops ahead of one Kid and between two; the model's ExprText.
-/
import Derived.Test.YtoepehlndljkoaaDoorF6
import Derived.IntWalk
namespace Go.Proofs.YtoepehlndljkoaaDoor
open Go.RowKit
set_option maxRecDepth 100000

/-- Four cells that hold an expression. -/
def Four (w : World) (b o : Nat) (v0 v1 v2 v3 : Value) : Prop := w.cell? ⟨b, o, none⟩ = some v0 ∧ w.cell? ⟨b, o + 1, none⟩ = some v1 ∧ w.cell? ⟨b, o + 2, none⟩ = some v2 ∧ w.cell? ⟨b, o + 3, none⟩ = some v3
theorem Four.keep {w w' : World} {B b o : Nat} {v0 v1 v2 v3 : Value} (h : Four w b o v0 v1 v2 v3) (hb : Below B w w') (h0 : b < B) : Four w' b o v0 v1 v2 v3 :=
  ⟨(hb.cell (p := ⟨b, _, none⟩) h0).trans h.1, (hb.cell (p := ⟨b, _, none⟩) h0).trans h.2.1, (hb.cell (p := ⟨b, _, none⟩) h0).trans h.2.2.1, (hb.cell (p := ⟨b, _, none⟩) h0).trans h.2.2.2⟩
theorem sgnS_size (op : Int) : (sgnS op).size = 1 := rfl
set_option maxHeartbeats 2000000 in
theorem l2Text_un (d : Nat) (op : Int) (ho : op = 11 ∨ op = 12) (x : E) (hx : formE d x = true) (need : Nat) (A : Option Addr) (cap : Nat) (w : World) (hR : RdS w w.heap.size [x] A) (hl : sizeE x ≤ 1000000)
    (ih : ∀ (k : E) (_ : formE d k = true) (need : Nat) (_ : need ≤ 6) (A : Option Addr) (cap : Nat) (w : World), RdS w w.heap.size k.kids A → sizeE k ≤ 1000000 → Calls Tryd.prog 16 #[exV k A cap, .int .i64 (need : Int)] w (StrB (tx (wE k need)) w)) :
    Calls Tryd.prog 16 #[.agg #[.int .i64 op, .int .i64 0, .string ⟨#[]⟩, .slice A 1 cap], .int .i64 (need : Int)] w (StrB (tx (wE (unE op x) need)) w) := by
  have hne := (head_ok d x hx 5 []).2
  have hsz := wE_tx_size hx 5
  have h5 := lvl_un ho
  have hbase : tx (wE (unE op x) 0) = (sgnS op ++ ⟨#[32]⟩) ++ tx (wE x 5) := by rw [wE_un ho _ (by omega), tx_un op hne]
  have hbody : bodyW (unE op x).op (unE op x).n (unE op x).name (wL (unE op x).op 0 (unE op x).kids) ≠ [] := by
    have : wE (unE op x) 0 = bodyW (unE op x).op (unE op x).n (unE op x).name (wL (unE op x).op 0 (unE op x).kids) := wE_bare _ (by omega)
    rw [← this, wE_un ho _ (by omega)]; simp
  obtain ⟨b, o, rfl, hB, ⟨d0, d1, d2⟩, A', cap', d3, hr'⟩ := hR.at_ (i := 0) (by simp)
  rw [Nat.zero_mul, Nat.add_zero] at d0 d1 d2 d3
  have e0 : [x][0] = x := rfl
  rw [e0] at d0 d1 d2 d3 hr'
  obtain ⟨c0, c1, c2, c3, hlt, hb⟩ := box_cells w (.int .i64 op) (.int .i64 0) (.string ⟨#[]⟩) (.slice (some ⟨b, o, none⟩) 1 cap) 30
  have hbl : Below w.heap.size w (w.alloc (.cells #[.int .i64 op, .int .i64 0, .string ⟨#[]⟩, .slice (some ⟨b, o, none⟩) 1 cap] 30)) := hb
  have IH0 := fun W (h : Below w.heap.size w W) => Lib.hid (ih x hx 5 (by omega) A' cap' W ((hr'.below h).more h.size) hl)
  have hfour : Four w b o (.int .i64 x.op) (.int .i64 x.n) (.string x.name) (.slice A' x.kids.length cap') := ⟨d0, d1, d2, d3⟩
  have HF := Lib.hid hfour
  have f4 := hfour.keep hb hB
  obtain ⟨f0, f1, f2, f3⟩ := f4
  have HH : (need ≤ 5 ∧ tx (wE (unE op x) need) = (sgnS op ++ ⟨#[32]⟩) ++ tx (wE x 5)) ∨ (5 < need ∧ tx (wE (unE op x) need) = (⟨#[40, 32]⟩ ++ ((sgnS op ++ ⟨#[32]⟩) ++ tx (wE x 5))) ++ ⟨#[32, 41]⟩) := by
    by_cases hn : need ≤ 5
    · left; exact ⟨hn, by rw [need_no (show ¬ lvl (unE op x).op < need by show ¬ lvl op < need; omega), hbase]⟩
    · right; exact ⟨by omega, by rw [need_br (show lvl (unE op x).op < need by show lvl op < need; omega) hbody, hbase]⟩
  have hsg := sgnS_size op
  unfold exV at IH0
  clear ih hR hne hbase hbody d0 d1 d2 d3 e0 hfour hr' c1 c2
  obtain ⟨op', n', s', ks'⟩ := x
  dsimp only [E.op, E.n, E.name, E.kids] at f0 f1 f2 f3 HF IH0
  have ht30 : (tx (wE (E.mk op' n' s' ks') 5)).size ≤ 30000000 := by omega
  generalize tx (wE (E.mk op' n' s' ks') 5) = t at *
  generalize tx (wE (unE op (E.mk op' n' s' ks')) need) = tt at *
  have SG := fun W => Lib.hid (l2Sign_any op W (by omega))
  have HO := Lib.hid h5
  have b1 : (op == 1) = false := beq_no (by omega)
  have b2 : (op == 2) = false := beq_no (by omega)
  have b13 : (op == 13) = false := beq_no (by omega)
  clear hx hsz hl ho h5
  obtain ⟨sg, hsgn⟩ : ∃ sg, sg = sgnS op := ⟨_, rfl⟩
  rw [← hsgn] at SG HH hsg
  clear hsgn
  have q1 : ¬ (9223372036854775807 < sg.size + (⟨#[32]⟩ : ByteArray).size) := by show ¬ (9223372036854775807 < sg.size + 1); omega
  have q2 : ¬ (9223372036854775807 < sg.size + (⟨#[32]⟩ : ByteArray).size + t.size) := by show ¬ (9223372036854775807 < sg.size + 1 + t.size); omega
  have q3 : ¬ (9223372036854775807 < sg.size + 1) := by omega
  have q4 : ¬ (9223372036854775807 < sg.size + 1 + t.size) := by omega
  have hbn : b < (w.alloc (.cells #[.int .i64 op, .int .i64 0, .string ⟨#[]⟩, .slice (some ⟨b, o, none⟩) 1 cap] 30)).heap.size := Nat.lt_of_lt_of_le hB hb.size
  replace HF := HF.out
  have HF4 := Lib.hid (HF.keep hb hB)
  clear HF
  have hs1 : sg.size ≤ 1 := by omega
  replace hsg := Lib.hid hsg
  replace HH := Lib.hid HH
  go_enter Tryd.func16, Tryd.ntmps16
  go_wp2_with fail
  refine Calls.mono (l2Level_any _ _) ?_
  rintro ee w1 ⟨rfl, rfl⟩
  rw [HO.out]
  generalize w.alloc (.cells #[.int .i64 op, .int .i64 0, .string ⟨#[]⟩, .slice (some ⟨b, o, none⟩) 1 cap] 30) = wa at *
  go_wp2
  go_region_held3 (fun u => u.cell? ⟨w.heap.size, 0, none⟩ = some (.int .i64 op) ∧ u.cell? ⟨w.heap.size, 3, none⟩ = some (.slice (some ⟨b, o, none⟩) 1 cap) ∧ u.cell? ⟨b, o, none⟩ = some (.int .i64 op') ∧ u.cell? ⟨b, o + 1, none⟩ = some (.int .i64 n') ∧ u.cell? ⟨b, o + 2, none⟩ = some (.string s') ∧ u.cell? ⟨b, o + 3, none⟩ = some (.slice A' ks'.length cap')) (go_keep)
    (first
      | (go_at_call 30; (with_reducible refine Calls.mono (SG _).out ?_); rintro ee w1 ⟨rfl, rfl⟩)
      | (go_at_call 16; (with_reducible refine Calls.mono (IH0 _ hbl.drew).out ?_); rintro ee w2 ⟨rfl, hb2⟩; have g0 := (hb2.cell (p := ⟨w.heap.size, 0, none⟩) hlt).trans c0; have g3 := (hb2.cell (p := ⟨w.heap.size, 3, none⟩) hlt).trans c3; obtain ⟨g4, g5, g6, g7⟩ := (HF4.out.keep (Below.refl _ _).drew hbn).keep hb2 hbn))
  all_goals
    have hb3 := hbl.drew.trans (hb2.mono (Nat.le_of_lt hlt))
    rcases HH.out with ⟨hn, he⟩ | ⟨hn, he⟩
    · have HE := Lib.hid he
      clear he
      go_wp2
      go_ret
      exact ⟨by rw [HE.out]; rfl, hb3⟩
    · have HE := Lib.hid he
      clear he
      go_wp2
      go_ret
      exact ⟨by rw [HE.out]; rfl, hb3⟩
set_option maxHeartbeats 4000000 in
theorem l2Text_bin (d : Nat) (op : Int) (ho : 3 ≤ op ∧ op ≤ 10) (x y : E) (hx : formE d x = true) (hy : formE d y = true) (need : Nat) (A : Option Addr) (cap : Nat) (w : World) (hR : RdS w w.heap.size [x, y] A) (hl : sizeE x + sizeE y ≤ 1000000)
    (ih : ∀ (k : E) (_ : formE d k = true) (need : Nat) (_ : need ≤ 6) (A : Option Addr) (cap : Nat) (w : World), RdS w w.heap.size k.kids A → sizeE k ≤ 1000000 → Calls Tryd.prog 16 #[exV k A cap, .int .i64 (need : Int)] w (StrB (tx (wE k need)) w)) :
    Calls Tryd.prog 16 #[.agg #[.int .i64 op, .int .i64 0, .string ⟨#[]⟩, .slice A 2 cap], .int .i64 (need : Int)] w (StrB (tx (wE (binE op x y) need)) w) := by
  have hv : 1 ≤ lvl op ∧ lvl op ≤ 4 := by
    have : op = 3 ∨ op = 4 ∨ op = 5 ∨ op = 6 ∨ op = 7 ∨ op = 8 ∨ op = 9 ∨ op = 10 := by omega
    rcases this with rfl | rfl | rfl | rfl | rfl | rfl | rfl | rfl <;> decide
  have hnx := (head_ok d x hx (lvl op) []).2
  have hny := (head_ok d y hy (lvl op + 1) []).2
  have hsx := wE_tx_size hx (lvl op)
  have hsy := wE_tx_size hy (lvl op + 1)
  have hbase : tx (wE (binE op x y) 0) = (((tx (wE x (lvl op)) ++ ⟨#[32]⟩) ++ sgnS op) ++ ⟨#[32]⟩) ++ tx (wE y (lvl op + 1)) := by rw [wE_bin ho _ _ (by omega), tx_bin op hnx hny]
  have hbody : bodyW (binE op x y).op (binE op x y).n (binE op x y).name (wL (binE op x y).op 0 (binE op x y).kids) ≠ [] := by
    have : wE (binE op x y) 0 = bodyW (binE op x y).op (binE op x y).n (binE op x y).name (wL (binE op x y).op 0 (binE op x y).kids) := wE_bare _ (by omega)
    rw [← this, wE_bin ho _ _ (by omega)]; simp
  obtain ⟨b, o, rfl, hB, ⟨d0, d1, d2⟩, A', cap', d3, hr'⟩ := hR.at_ (i := 0) (by simp)
  obtain ⟨b2, o2, he2, hB2, ⟨y0, y1, y2⟩, A2, cap2, y3, hr2⟩ := hR.at_ (i := 1) (by simp)
  injection he2 with he2
  injection he2 with he2 he3
  subst he2
  subst he3
  rw [Nat.zero_mul, Nat.add_zero] at d0 d1 d2 d3
  rw [Nat.one_mul] at y0 y1 y2 y3
  have e0 : [x, y][0] = x := rfl
  have e1 : [x, y][1] = y := rfl
  rw [e0] at d0 d1 d2 d3 hr'
  rw [e1] at y0 y1 y2 y3 hr2
  obtain ⟨c0, c1, c2, c3, hlt, hb⟩ := box_cells w (.int .i64 op) (.int .i64 0) (.string ⟨#[]⟩) (.slice (some ⟨b, o, none⟩) 2 cap) 30
  have hbl : Below w.heap.size w (w.alloc (.cells #[.int .i64 op, .int .i64 0, .string ⟨#[]⟩, .slice (some ⟨b, o, none⟩) 2 cap] 30)) := hb
  have IX := fun W (h : Below w.heap.size w W) => Lib.hid (ih x hx (lvl op) (by omega) A' cap' W ((hr'.below h).more h.size) (by omega))
  have IY := fun W (h : Below w.heap.size w W) => ih y hy (lvl op + 1) (by omega) A2 cap2 W ((hr2.below h).more h.size) (by omega)
  have hfx : Four w b o (.int .i64 x.op) (.int .i64 x.n) (.string x.name) (.slice A' x.kids.length cap') := ⟨d0, d1, d2, d3⟩
  have hfy : Four w b (o + 4) (.int .i64 y.op) (.int .i64 y.n) (.string y.name) (.slice A2 y.kids.length cap2) := ⟨y0, y1, y2, y3⟩
  have HFX := Lib.hid (hfx.keep hb hB)
  have HFY := Lib.hid (hfy.keep hb hB)
  obtain ⟨f0, f1, f2, f3⟩ := hfx.keep hb hB
  obtain ⟨z0, z1, z2, z3⟩ := hfy.keep hb hB
  have HH : (need ≤ lvl op ∧ tx (wE (binE op x y) need) = (((tx (wE x (lvl op)) ++ ⟨#[32]⟩) ++ sgnS op) ++ ⟨#[32]⟩) ++ tx (wE y (lvl op + 1))) ∨ (lvl op < need ∧ tx (wE (binE op x y) need) = (⟨#[40, 32]⟩ ++ ((((tx (wE x (lvl op)) ++ ⟨#[32]⟩) ++ sgnS op) ++ ⟨#[32]⟩) ++ tx (wE y (lvl op + 1)))) ++ ⟨#[32, 41]⟩) := by
    by_cases hn : need ≤ lvl op
    · left; exact ⟨hn, by rw [need_no (show ¬ lvl (binE op x y).op < need by show ¬ lvl op < need; omega), hbase]⟩
    · right; exact ⟨by omega, by rw [need_br (show lvl (binE op x y).op < need by show lvl op < need; omega) hbody, hbase]⟩
  have hsg := sgnS_size op
  unfold exV at IX IY
  have IY := fun W h => Lib.hid (IY W h)
  have SG := fun W => Lib.hid (l2Sign_any op W (by omega))
  have LV := fun W => Lib.hid (l2Level_any op W)
  have g1 : (op == 1) = false := beq_no (by omega)
  have g2 : (op == 2) = false := beq_no (by omega)
  have g13 : (op == 13) = false := beq_no (by omega)
  have hbn : b < (w.alloc (.cells #[.int .i64 op, .int .i64 0, .string ⟨#[]⟩, .slice (some ⟨b, o, none⟩) 2 cap] 30)).heap.size := Nat.lt_of_lt_of_le hB hb.size
  clear ih hR hnx hny hbase hbody d0 d1 d2 d3 e0 e1 hr' hr2 y0 y1 y2 y3 hfx hfy c1 c2 ho
  obtain ⟨op', n', s', ks'⟩ := x
  obtain ⟨op'', n'', s'', ks''⟩ := y
  dsimp only [E.op, E.n, E.name, E.kids] at f0 f1 f2 f3 HFX HFY z0 z1 z2 z3 IX IY
  obtain ⟨L, hL⟩ : ∃ L, L = lvl op := ⟨_, rfl⟩
  rw [← hL] at IX IY HH LV hsx hsy hv
  clear hL
  have hcast : ((L + 1 : Nat) : Int) = (L : Int) + 1 := by omega
  rw [hcast] at IY
  clear hcast
  have hx30 : (tx (wE (E.mk op' n' s' ks') L)).size ≤ 30000000 := by omega
  have hy30 : (tx (wE (E.mk op'' n'' s'' ks'') (L + 1))).size ≤ 30000000 := by omega
  clear hx hy hsx hsy hl
  generalize tx (wE (E.mk op' n' s' ks') L) = t at *
  generalize tx (wE (E.mk op'' n'' s'' ks'') (L + 1)) = t2 at *
  generalize tx (wE (binE op (E.mk op' n' s' ks') (E.mk op'' n'' s'' ks'')) need) = tt at *
  obtain ⟨sg, hsgn⟩ : ∃ sg, sg = sgnS op := ⟨_, rfl⟩
  rw [← hsgn] at SG HH hsg
  clear hsgn
  have hs1 : sg.size ≤ 1 := by omega
  have q1 : ¬ (9223372036854775807 < t.size + 1) := by omega
  have q2 : ¬ (9223372036854775807 < t.size + 1 + sg.size) := by omega
  have q3 : ¬ (9223372036854775807 < t.size + 1 + sg.size + 1) := by omega
  have q4 : ¬ (9223372036854775807 < t.size + 1 + sg.size + 1 + t2.size) := by omega
  have r1 : ¬ (9223372036854775807 < t.size + (⟨#[32]⟩ : ByteArray).size) := by show ¬ (9223372036854775807 < t.size + 1); omega
  have r2 : ¬ (9223372036854775807 < t.size + (⟨#[32]⟩ : ByteArray).size + sg.size) := by show ¬ (9223372036854775807 < t.size + 1 + sg.size); omega
  have r3 : ¬ (9223372036854775807 < t.size + (⟨#[32]⟩ : ByteArray).size + sg.size + (⟨#[32]⟩ : ByteArray).size) := by show ¬ (9223372036854775807 < t.size + 1 + sg.size + 1); omega
  have r4 : ¬ (9223372036854775807 < t.size + (⟨#[32]⟩ : ByteArray).size + sg.size + (⟨#[32]⟩ : ByteArray).size + t2.size) := by show ¬ (9223372036854775807 < t.size + 1 + sg.size + 1 + t2.size); omega
  have l5 : ((L : Int) == 5) = false := beq_no (by omega)
  replace hsg := Lib.hid hsg
  replace HH := Lib.hid HH
  go_enter Tryd.func16, Tryd.ntmps16
  go_wp2_with fail
  refine Calls.mono (LV _).out ?_
  rintro ee w1 ⟨rfl, rfl⟩
  generalize w.alloc (.cells #[.int .i64 op, .int .i64 0, .string ⟨#[]⟩, .slice (some ⟨b, o, none⟩) 2 cap] 30) = wa at *
  have hwr : IntKind.i64.wrap ((L : Int) + 1) = (L : Int) + 1 := IntWalk.i64_in _ ⟨by omega, by omega⟩
  go_wp2
  go_region_held3 (fun u => u.cell? ⟨w.heap.size, 0, none⟩ = some (.int .i64 op) ∧ u.cell? ⟨w.heap.size, 3, none⟩ = some (.slice (some ⟨b, o, none⟩) 2 cap) ∧ u.cell? ⟨b, o, none⟩ = some (.int .i64 op') ∧ u.cell? ⟨b, o + 1, none⟩ = some (.int .i64 n') ∧ u.cell? ⟨b, o + 2, none⟩ = some (.string s') ∧ u.cell? ⟨b, o + 3, none⟩ = some (.slice A' ks'.length cap')
      ∧ u.cell? ⟨b, o + 4, none⟩ = some (.int .i64 op'') ∧ u.cell? ⟨b, o + 4 + 1, none⟩ = some (.int .i64 n'') ∧ u.cell? ⟨b, o + 4 + 2, none⟩ = some (.string s'') ∧ u.cell? ⟨b, o + 4 + 3, none⟩ = some (.slice A2 ks''.length cap2)) (go_keep)
    (first
      | (go_at_call 30; (with_reducible refine Calls.mono (SG _).out ?_); rintro ee w1 ⟨rfl, rfl⟩)
      | (go_at_call 16; (with_reducible refine Calls.mono (IX _ hbl.drew).out ?_); rintro ee w2 ⟨rfl, hb2⟩; have hq2 : Below w.heap.size w w2 := hbl.drew.trans (hb2.mono (Nat.le_of_lt hlt)); have g0 := (hb2.cell (p := ⟨w.heap.size, 0, none⟩) hlt).trans c0; have g3 := (hb2.cell (p := ⟨w.heap.size, 3, none⟩) hlt).trans c3; have m3 : w.heap.size < w2.heap.size := Nat.lt_of_lt_of_le hlt hb2.size; have m4 : b < w2.heap.size := Nat.lt_of_lt_of_le hbn hb2.size; have M5 := Lib.hid ((HFX.out.keep (Below.refl _ _).drew hbn).keep hb2 hbn); have M6 := Lib.hid ((HFY.out.keep (Below.refl _ _).drew hbn).keep hb2 hbn); obtain ⟨g4, g5, g6, g7⟩ := (HFX.out.keep (Below.refl _ _).drew hbn).keep hb2 hbn; obtain ⟨n4, n5, n6, n7⟩ := (HFY.out.keep (Below.refl _ _).drew hbn).keep hb2 hbn)
      | (go_at_call 16; (with_reducible refine Calls.mono (IY _ hq2).out ?_); rintro ee w3 ⟨rfl, hb4⟩; have hq3 : Below w.heap.size w w3 := hq2.trans (hb4.mono hq2.size); have k0 := (hb4.cell (p := ⟨w.heap.size, 0, none⟩) m3).trans g0; have k3 := (hb4.cell (p := ⟨w.heap.size, 3, none⟩) m3).trans g3; obtain ⟨k4, k5, k6, k7⟩ := M5.out.keep hb4 m4; obtain ⟨p4, p5, p6, p7⟩ := M6.out.keep hb4 m4))
  all_goals
    clear hwr c0 c3 g0 g3 k0 k3 g4 g5 g6 g7 n4 n5 n6 n7 k4 k5 k6 k7 p4 p5 p6 p7 f0 f1 f2 f3 z0 z1 z2 z3
    rcases HH.out with ⟨hn, he⟩ | ⟨hn, he⟩
    · have HE := Lib.hid he
      clear he
      go_wp2
      go_ret
      exact ⟨by rw [HE.out]; rfl, hq3⟩
    · have HE := Lib.hid he
      clear he
      go_wp2
      go_ret
      exact ⟨by rw [HE.out]; rfl, hq3⟩
end Go.Proofs.YtoepehlndljkoaaDoor
