/-
  Sameness of expressions: the model's SameExpr; the program's test beside the Kids.
-/
import Derived.Test.YtkhcfhhejmkikaaGreatDoorMg7
import Derived.Test.YtkhcfhhejmkikaaGreatDoorMg11
import Derived.Test.YtkhcfhhejmkikaaGreatDoorMg17
import Derived.Test.YtkhcfhhejmkikaaGreatDoorMg24
import Derived.Test.YtkhcfhhejmkikaaGreatDoorMg25
import Derived.Test.YtkhcfhhejmkikaaGreatDoorMg32
import Derived.Test.YtkhcfhhejmkikaaGreatDoorMg33
namespace Go.Proofs.YtkhcfhhejmkikaaGreatDoor
open Go.RowKit
set_option maxRecDepth 100000

/-- What the program's ReadExpr leaves. -/
def RdD (p : E × Bool) (w : World) (ee : Ending) (w' : World) : Prop :=
  ∃ (A : Option Addr) (c : Nat), ee = .returned (.tuple #[exV p.1 A c, .bool p.2]) ∧ PdD w' (Between w' w.heap.size w'.heap.size) p.1.kids A ∧ Below w.heap.size w w'
set_option maxHeartbeats 8000000 in
theorem implReadExpr_any (s : ByteArray) (w : World) (hs : s.size ≤ 1048576) (T : Tabs w) (N : NTabs w) (S : Sgn w) : Calls Tryz.prog 10 #[.string s] w (RdD (readF s) w) := by
  have hb0 := (Below.refl w.heap.size w).alloc (Nat.le_refl _) (.cells #[.int .i64 0, .int .i64 0, .string ⟨#[]⟩, .slice none 0 0] 24)
  have R0 := Lib.hid (Res.new w (.int .i64 0) (.int .i64 0) (.string ⟨#[]⟩) (.slice none 0 0) 24)
  have hz0 : (w.alloc (.cells #[.int .i64 0, .int .i64 0, .string ⟨#[]⟩, .slice none 0 0] 24)).heap.size = w.heap.size + 1 := World.size_alloc _ _
  have HB0 := Lib.hid hb0
  have SC := Lib.hid (implCutWords_any s (w.alloc (.cells #[.int .i64 0, .int .i64 0, .string ⟨#[]⟩, .slice none 0 0] 24)) hs (T.below hb0) (N.below hb0))
  have hlen := cutRes_len s
  cases hcr : cutRes s with
  | mk ws ok =>
  rw [hcr] at SC hlen
  have hlen' : ws.length ≤ 600 := hlen
  have HV := Lib.hid (words_four hcr)
  have none_ : ∀ W ww, Below w.heap.size w W → ww = ((((W.setCell ⟨w.heap.size, 0, none⟩ (.int .i64 0)).setCell ⟨w.heap.size, 1, none⟩ (.int .i64 0)).setCell ⟨w.heap.size, 2, none⟩ (.string ⟨#[]⟩)).setCell ⟨w.heap.size, 3, none⟩ (.slice none 0 0)) → RdD (E.none, false) w (.returned (.tuple #[.agg #[.int .i64 0, .int .i64 0, .string ⟨#[]⟩, .slice none 0 0], .bool false])) ww := by
    intro W ww hW hww
    subst hww
    exact ⟨none, 0, rfl, .inl rfl, below_four hW (Nat.le_refl _) _ _ _ _⟩
  have NN := Lib.hid none_
  have HT := Lib.hid (fun W (h : Below w.heap.size w W) => T.below h)
  have HN := Lib.hid (fun W (h : Below w.heap.size w W) => N.below h)
  have HS := Lib.hid (fun W (h : Below w.heap.size w W) => S.below h)
  clear none_ hlen hb0 T N S
  cases ok
  · rw [readF_no hcr]
    clear hcr
    go_enter Tryz.func10, Tryz.ntmps10
    go_wp2_with fail
    (with_reducible refine Calls.mono SC.out ?_)
    rintro ee w1 ⟨⟨v0, rfl, hO1⟩, hb1⟩
    have R1 := R0.out.below hb1 (by omega)
    have HB1 := Lib.hid (HB0.out.trans (hb1.mono HB0.out.size))
    obtain ⟨c0, c1, c2', c3⟩ := R1.c
    have f0 := R1.f 0
    have f1 := R1.f 1
    have f2 := R1.f 2
    have f3 := R1.f 3
    clear SC hO1 R1 R0 hb1 HB0 HT HN HS
    go_wp2_with fail
    refine bodyPost_ret (v := .tuple #[.agg #[.int .i64 0, .int .i64 0, .string ⟨#[]⟩, .slice none 0 0], .bool false]) (by simp [results, Tryz.results10, go_sem, c0, c1, c2', c3]) rfl ?_
    exact NN.out _ _ HB1.out rfl
  · rw [readF_ok hcr]
    clear hcr
    have RC := Lib.hid (readW_cases ws)
    have HLS := Lib.hid (fun e r => (rd_less nmB 6100).L 1 ws e r (by omega))
    have HBK := Lib.hid (fun e r => (rd_bulk nmB 6100).L 1 ws e r HV.out)
    go_enter Tryz.func10, Tryz.ntmps10
    go_wp2_with fail
    (with_reducible refine Calls.mono SC.out ?_)
    rintro ee w1 ⟨⟨v0, rfl, hO1⟩, hb1⟩
    obtain ⟨A0, cap0, rfl, hW1⟩ := words_own hO1
    have R1 := Lib.hid (R0.out.below hb1 (by omega))
    have HB1 := Lib.hid (HB0.out.trans (hb1.mono HB0.out.size))
    have hs1 := hb1.size
    have NR := Lib.hid (newExprReader_any A0 cap0 ws w1 hW1 (HS.out w1 HB1.out) (HN.out w1 HB1.out))
    clear SC hO1 R0 hb1 HB0 hW1
    go_wp2_with fail
    (with_reducible refine Calls.mono NR.out ?_)
    rintro ee w2 ⟨rfl, hX2, hR2, hb2⟩
    have L2 := Lib.hid ((imp_all w1.heap.size cap0 A0 ws hlen' HV.out 6100 6100 (Nat.le_refl _)).X 0 w2 (by omega) hX2 hR2)
    rw [List.drop_zero] at L2
    have hs2 := hb2.size
    have hR1w : w1.heap.size < w2.heap.size := hX2.cu.lt
    have R2 := Lib.hid (R1.out.below hb2 (by omega))
    have HB2 := Lib.hid (HB1.out.trans (hb2.mono HB1.out.size))
    have hw1 : w.heap.size < w1.heap.size := by omega
    clear NR hX2 hR2 hb2 R1 HB1 HV
    go_wp2_with fail
    (with_reducible refine Calls.mono L2.out ?_)
    rintro ee w3 ⟨hm3, ⟨k3, hc3, hd3⟩, x, A2, cc, rfl, hp3, hx⟩
    unfold exV
    have hal := (Below.refl w3.heap.size w3).alloc (Nat.le_refl _) (.cells #[.int .i64 x.op, .int .i64 x.n, .string x.name, .slice A2 x.kids.length cc] 24)
    have b0 := alloc_cell w3 #[.int .i64 x.op, .int .i64 x.n, .string x.name, .slice A2 x.kids.length cc] 24 (0, 0) 0
    have b1 := alloc_cell w3 #[.int .i64 x.op, .int .i64 x.n, .string x.name, .slice A2 x.kids.length cc] 24 (0, 0) 1
    have b2 := alloc_cell w3 #[.int .i64 x.op, .int .i64 x.n, .string x.name, .slice A2 x.kids.length cc] 24 (0, 0) 2
    have b3 := alloc_cell w3 #[.int .i64 x.op, .int .i64 x.n, .string x.name, .slice A2 x.kids.length cc] 24 (0, 0) 3
    replace b0 : (w3.alloc (.cells #[.int .i64 x.op, .int .i64 x.n, .string x.name, .slice A2 x.kids.length cc] 24)).cell? ⟨w3.heap.size, 0, none⟩ = some (.int .i64 x.op) := b0
    replace b1 : (w3.alloc (.cells #[.int .i64 x.op, .int .i64 x.n, .string x.name, .slice A2 x.kids.length cc] 24)).cell? ⟨w3.heap.size, 1, none⟩ = some (.int .i64 x.n) := b1
    replace b2 : (w3.alloc (.cells #[.int .i64 x.op, .int .i64 x.n, .string x.name, .slice A2 x.kids.length cc] 24)).cell? ⟨w3.heap.size, 2, none⟩ = some (.string x.name) := b2
    replace b3 : (w3.alloc (.cells #[.int .i64 x.op, .int .i64 x.n, .string x.name, .slice A2 x.kids.length cc] 24)).cell? ⟨w3.heap.size, 3, none⟩ = some (.slice A2 x.kids.length cc) := b3
    have hs3 := hm3.1.below.size
    have hs4 : w3.heap.size < (w3.alloc (.cells #[.int .i64 x.op, .int .i64 x.n, .string x.name, .slice A2 x.kids.length cc] 24)).heap.size := by rw [World.size_alloc]; omega
    have HB3 := Lib.hid (HB2.out.trans (hm3.1.below.mono (by omega : w.heap.size ≤ w1.heap.size)))
    have R3 := R2.out.below hm3.1.below hw1
    have HR4 := Lib.hid (R3.below hal R3.lt)
    have HB4 := Lib.hid (HB3.out.trans (hal.mono (by omega)))
    have HP4 := Lib.hid (PdD.later hp3 hal (Nat.le_refl _) hal.size)
    have HC4 := Lib.hid (hc3.below hal)
    have hk3 := hc3.le
    have HX := Lib.hid hx
    have HD := Lib.hid hd3
    clear L2 hm3 hc3 hd3 hp3 hx hal R2 R3 HB2 HB3
    go_upto_region 6 with (fail)
    generalize w3.alloc (.cells #[.int .i64 x.op, .int .i64 x.n, .string x.name, .slice A2 x.kids.length cc] 24) = w4 at *
    rcases RC.out with ⟨h1, h2⟩ | ⟨e, r, h1, h2⟩
    · have H2 := Lib.hid h2
      rw [h1]
      have e0 : (none : Option (E × List W)).isSome = false := rfl
      rw [e0]
      clear h1 h2 e0 RC HLS HBK HX HD HP4 HC4 HT HN HS
      obtain ⟨c0, c1, c2', c3⟩ := HR4.out.c
      have f0 := HR4.out.f 0
      have f1 := HR4.out.f 1
      have f2 := HR4.out.f 2
      have f3 := HR4.out.f 3
      go_wp2_with fail
      refine bodyPost_ret (v := .tuple #[.agg #[.int .i64 0, .int .i64 0, .string ⟨#[]⟩, .slice none 0 0], .bool false]) (by simp [results, Tryz.results10, go_sem, c0, c1, c2', c3]) rfl ?_
      rw [H2.out]
      exact NN.out _ _ HB4.out rfl
    · obtain rfl : x = e := HX.out _ h1
      obtain ⟨a1, a2, _, _⟩ := HLS.out _ _ h1
      have hbk := (HBK.out _ _ h1).2
      have hd := HD.out _ h1
      dsimp only at hd
      have H2 := Lib.hid h2
      rw [h1]
      have e0 : (some (x, r) : Option (E × List W)).isSome = true := rfl
      rw [e0]
      have AE := Lib.hid (atEnd_any w1.heap.size cap0 k3 A0 ws w4 HC4.out)
      clear h1 h2 e0 RC HLS HBK HX HD
      by_cases hr : r = []
      · subst hr
        have hk : k3 = ws.length := by
          have := List.drop_eq_nil_iff.1 hd
          omega
        rw [decide_eq_true hk] at AE
        clear hd hk hk3 a1 a2
        go_wp2_with fail
        (with_reducible refine Calls.mono AE.out ?_)
        rintro ee w5 ⟨rfl, rfl⟩
        have hb5 : Below w4.heap.size w4 w4.drew := (Below.refl _ _).drew
        have V5 := Lib.hid (implExprValid_any x A2 cc w4.drew ((PdD.later HP4.out hb5 (Nat.le_refl _) hb5.size).rd fun _ h => h.2.1) (by simp at hbk; omega) (HT.out _ (HB4.out.trans (hb5.mono HB4.out.size))) (HS.out _ (HB4.out.trans (hb5.mono HB4.out.size))))
        unfold exV at V5
        clear AE hbk HT HN HS HC4
        cases hv : validE x
        · rw [hv] at V5
          have H3 := Lib.hid (show readW ws = (E.none, false) by rw [H2.out, hv, if_neg (by simp)])
          clear hv
          go_wp2_with fail
          (with_reducible refine Calls.mono V5.out ?_)
          rintro ee w6 ⟨rfl, hb6⟩
          have hb7 := hb5.trans (hb6.mono hb5.size)
          have R6 := HR4.out.below hb7 HR4.out.lt
          have HB6 := Lib.hid (HB4.out.trans (hb7.mono HB4.out.size))
          have HR6 := Lib.hid R6
          clear V5 hb6 hb7 hb5 R6 b0 b1 b2 b3
          obtain ⟨c0, c1, c2', c3⟩ := HR6.out.c
          have f0 := HR6.out.f 0
          have f1 := HR6.out.f 1
          have f2 := HR6.out.f 2
          have f3 := HR6.out.f 3
          go_wp2_with fail
          refine bodyPost_ret (v := .tuple #[.agg #[.int .i64 0, .int .i64 0, .string ⟨#[]⟩, .slice none 0 0], .bool false]) (by simp [results, Tryz.results10, go_sem, c0, c1, c2', c3]) rfl ?_
          rw [H3.out]
          exact NN.out _ _ HB6.out rfl
        · rw [hv] at V5
          have H3 := Lib.hid (show readW ws = (x, true) by rw [H2.out, hv]; simp)
          clear hv
          go_wp2_with fail
          (with_reducible refine Calls.mono V5.out ?_)
          rintro ee w6 ⟨rfl, hb6⟩
          have hb7 := hb5.trans (hb6.mono hb5.size)
          have R6 := HR4.out.below hb7 HR4.out.lt
          have HB6 := Lib.hid (HB4.out.trans (hb7.mono HB4.out.size))
          have HP6 := Lib.hid (PdD.later HP4.out hb7 (Nat.le_refl _) hb7.size)
          have k0 := (hb7.cell (p := ⟨w3.heap.size, 0, none⟩) hs4).trans b0
          have k1 := (hb7.cell (p := ⟨w3.heap.size, 1, none⟩) hs4).trans b1
          have k2 := (hb7.cell (p := ⟨w3.heap.size, 2, none⟩) hs4).trans b2
          have k3' := (hb7.cell (p := ⟨w3.heap.size, 3, none⟩) hs4).trans b3
          obtain ⟨c0, c1, c2', c3⟩ := R6.c
          have f0 := R6.f 0
          have f1 := R6.f 1
          have f2 := R6.f 2
          have f3 := R6.f 3
          clear V5 hb6 hb7 hb5 R6 b0 b1 b2 b3
          go_wp2_with fail
          refine bodyPost_ret (v := .tuple #[.agg #[.int .i64 x.op, .int .i64 x.n, .string x.name, .slice A2 x.kids.length cc], .bool true]) (by simp [results, Tryz.results10, go_sem, c0, c1, c2', c3]) rfl ?_
          rw [H3.out]
          refine ⟨A2, cc, rfl, ?_, below_four HB6.out (Nat.le_refl _) _ _ _ _⟩
          have h := PdD.four' HP6.out (show w.heap.size < w2.heap.size by omega) (.int .i64 x.op) (.int .i64 x.n) (.string x.name) (.slice A2 x.kids.length cc)
          exact h.wide (by omega) (by simp)
      · have hk : ¬ k3 = ws.length := by
          intro hk
          apply hr
          rw [← hd, hk, List.drop_length]
        rw [decide_eq_false hk] at AE
        have H3 := Lib.hid (show readW ws = (E.none, false) by rw [H2.out, if_neg (fun h => hr h.1)])
        clear hd hk hk3 a1 a2 hbk hr HT HN HS HP4 HC4
        go_wp2_with fail
        (with_reducible refine Calls.mono AE.out ?_)
        rintro ee w5 ⟨rfl, rfl⟩
        have hb5 : Below w4.heap.size w4 w4.drew := (Below.refl _ _).drew
        have HR5 := Lib.hid (HR4.out.below hb5 HR4.out.lt)
        have HB5 := Lib.hid (HB4.out.trans (hb5.mono HB4.out.size))
        clear AE hb5 b0 b1 b2 b3
        obtain ⟨c0, c1, c2', c3⟩ := HR4.out.c
        have f0 := HR4.out.f 0
        have f1 := HR4.out.f 1
        have f2 := HR4.out.f 2
        have f3 := HR4.out.f 3
        go_wp2_with fail
        refine bodyPost_ret (v := .tuple #[.agg #[.int .i64 0, .int .i64 0, .string ⟨#[]⟩, .slice none 0 0], .bool false]) (by simp [results, Tryz.results10, go_sem, c0, c1, c2', c3]) rfl ?_
        rw [H3.out]
        exact NN.out _ _ HB5.out rfl
end Go.Proofs.YtkhcfhhejmkikaaGreatDoor

namespace Go.Proofs.YtkhcfhhejmkikaaGreatDoor
open Go.RowKit
set_option maxRecDepth 100000

mutual
/-- A part with its marks, from the number k on. -/
def mkE : E → Nat → E
  | .mk _ _ _ ks, k => .mk (k : Int) ((k : Int) + 1) (markB (k + 2)) (mkL ks (k + 3))
def mkL : List E → Nat → List E
  | [], _ => []
  | e :: ks, k => mkE e k :: mkL ks (k + 3 * sizeE e)
end
theorem mkE_eq (e : E) (k : Nat) : mkE e k = .mk (k : Int) ((k : Int) + 1) (markB (k + 2)) (mkL e.kids (k + 3)) := by cases e; rw [mkE]; rfl
theorem mkL_len : ∀ (ks : List E) (k : Nat), (mkL ks k).length = ks.length
  | [], _ => by rw [mkL]
  | e :: ks, k => by rw [mkL, List.length_cons, List.length_cons, mkL_len ks]
theorem mkL_get : ∀ (ks : List E) (k i : Nat) (h : i < ks.length) (h' : i < (mkL ks k).length), (mkL ks k)[i] = mkE ks[i] (k + 3 * sizeL (ks.take i))
  | [], _, i, h, _ => absurd h (by simp)
  | e :: ks, k, 0, _, h' => by
    simp only [mkL, List.getElem_cons_zero, List.take_zero]
    rfl
  | e :: ks, k, i + 1, h, h' => by
    simp only [mkL, List.getElem_cons_succ, List.take_succ_cons]
    rw [mkL_get ks (k + 3 * sizeE e) i (by simpa using h) (by rw [mkL_len]; simpa using h)]
    congr 1
    show _ = k + 3 * (sizeE e + sizeL (ks.take i))
    omega
theorem flat_free {w : World} {b : Nat} (h : Flat w b) (o : Nat) : w.frozen? ⟨b, o, none⟩ = false := by
  obtain ⟨cs, t, h⟩ := h
  exact frozen_of_row w b o cs t h
/-- Only blocks of a kind are written. -/
structure Upd (base : Nat) (S : Nat → Prop) (w w' : World) : Prop where
  below : Below base w w'
  same : ∀ b, b < w.heap.size → ¬ S b → w'.heap[b]? = w.heap[b]?
theorem Upd.refl (base : Nat) (S : Nat → Prop) (w : World) : Upd base S w w := ⟨Below.refl _ _, fun _ _ _ => rfl⟩
theorem Upd.trans {base : Nat} {S : Nat → Prop} {a b c : World} (h : Upd base S a b) (k : Upd base S b c) : Upd base S a c :=
  ⟨h.below.trans k.below, fun i h1 h2 => (k.same i (Nat.lt_of_lt_of_le h1 h.below.size) h2).trans (h.same i h1 h2)⟩
theorem Upd.mono {base : Nat} {S S' : Nat → Prop} {a b : World} (h : Upd base S a b) (hs : ∀ c, S c → S' c) : Upd base S' a b := ⟨h.below, fun i h1 h2 => h.same i h1 (fun e => h2 (hs i e))⟩
theorem Upd.of_below {base : Nat} {S : Nat → Prop} {a b : World} (h : Below a.heap.size a b) (hb : base ≤ a.heap.size) : Upd base S a b := ⟨h.mono hb, fun i h1 _ => h.block i h1⟩
theorem Upd.set {base : Nat} {S : Nat → Prop} {w : World} {b : Nat} (hS : S b) (hb : base ≤ b) (o : Nat) (v : Value) : Upd base S w (w.setCell ⟨b, o, none⟩ v) :=
  ⟨(Below.refl _ _).setCell (p := ⟨b, o, none⟩) hb _, fun i _ h2 => by
    show (w.heap.modify b _)[i]? = _
    rw [Array.getElem?_modify, if_neg (by intro e; subst e; exact h2 hS)]⟩
/-- A list's element, with the colour of what lies below it. -/
def AtC (w : World) (S : Nat → Prop) (f : Nat → Nat) (b o i : Nat) (e : E) : Prop := PdDAt w (fun c => S c ∧ f c = i) e b (o + i * 4)
/-- Behind j elements. -/
def MkRel (w0 : World) (base : Nat) (S : Nat → Prop) (f : Nat → Nat) (b o : Nat) (ks : List E) (k j : Nat) (wr : World) : Prop :=
  (∀ i, (h : i < ks.length) → AtC wr (fun c => S c ∧ c ≠ b) f b o i (if i < j then mkE ks[i] (k + 3 * sizeL (ks.take i)) else ks[i])) ∧ Upd base S w0 wr ∧ ∀ c, S c → Flat wr c
theorem flat_set {w : World} {c : Nat} (h : Flat w c) (p : Addr) (v : Value) : Flat (w.setCell p v) c := h.set p v
/-- An element that lies elsewhere stays. -/
theorem AtC.keep {w w' : World} {S : Nat → Prop} {f : Nat → Nat} {b o i : Nat} {e : E} (h : AtC w (fun c => S c ∧ c ≠ b) f b o i e) (hb : ∀ j, j < 4 → w'.cell? ⟨b, o + i * 4 + j, none⟩ = w.cell? ⟨b, o + i * 4 + j, none⟩)
    (hs : ∀ c, S c → c ≠ b → f c = i → w'.heap[c]? = w.heap[c]?) : AtC w' (fun c => S c ∧ c ≠ b) f b o i e := by
  obtain ⟨⟨c0, c1, c2⟩, A, cap, c3, hp⟩ := h
  have b0 := hb 0 (by omega)
  rw [Nat.add_zero] at b0
  refine ⟨⟨b0.trans c0, (hb 1 (by omega)).trans c1, (hb 2 (by omega)).trans c2⟩, A, cap, (hb 3 (by omega)).trans c3, ?_⟩
  exact hp.keep (fun c o hc => World.cell?_of_block (hs c hc.1.1 hc.1.2 hc.2)) (fun c hc => hc)
theorem cell_set_ne (w : World) (b o o' : Nat) (v : Value) (h : o' ≠ o) : (w.setCell ⟨b, o, none⟩ v).cell? ⟨b, o', none⟩ = w.cell? ⟨b, o', none⟩ := World.cell?_setCell_other _ _ _ _ (by intro e; injection e with _ e; exact h e.symm)
/-- One element more: three stores, and its Kids. -/
theorem MkRel.step {w0 w1 w2 w3 : World} {base : Nat} {S : Nat → Prop} {f : Nat → Nat} {b o k j : Nat} {ks : List E} (h : MkRel w0 base S f b o ks k j w1) (hj : j < ks.length) (hSb : S b) (hlt : ∀ c, S c → c < w1.heap.size) {A : Option Addr} {cap : Nat} {kk : Nat} (hk : kk = k + 3 * sizeL (ks.take j))
    (h12 : Upd base (fun c => c = b) w1 w2) (hf2 : Flat w2 b)
    (d0 : w2.cell? ⟨b, o + j * 4, none⟩ = some (.int .i64 (kk : Int))) (d1 : w2.cell? ⟨b, o + j * 4 + 1, none⟩ = some (.int .i64 ((kk : Int) + 1))) (d2 : w2.cell? ⟨b, o + j * 4 + 2, none⟩ = some (.string (markB (kk + 2)))) (d3 : w2.cell? ⟨b, o + j * 4 + 3, none⟩ = some (.slice A ks[j].kids.length cap))
    (hother : ∀ p, p < o + j * 4 ∨ o + j * 4 + 4 ≤ p → w2.cell? ⟨b, p, none⟩ = w1.cell? ⟨b, p, none⟩)
    (hp : PdD w3 (fun c => (S c ∧ c ≠ b) ∧ f c = j) (mkL ks[j].kids (kk + 3)) A) (h23 : Upd base (fun c => (S c ∧ c ≠ b) ∧ f c = j) w2 w3) (hf3 : ∀ c, (S c ∧ c ≠ b) ∧ f c = j → Flat w3 c) :
    MkRel w0 base S f b o ks k (j + 1) w3 := by
  have hs12 := h12.below.size
  have hb2 : b < w2.heap.size := Nat.lt_of_lt_of_le (hlt b hSb) hs12
  have hbb : w3.heap[b]? = w2.heap[b]? := h23.same b hb2 (fun e => e.1.2 rfl)
  have hcc : ∀ p, w3.cell? ⟨b, p, none⟩ = w2.cell? ⟨b, p, none⟩ := fun p => World.cell?_of_block hbb
  have heap12 : ∀ c, S c → c ≠ b → w2.heap[c]? = w1.heap[c]? := fun c hc hne => h12.same c (hlt c hc) hne
  have heap23 : ∀ c, S c → c ≠ b → f c ≠ j → w3.heap[c]? = w2.heap[c]? := fun c hc hne hfc => h23.same c (Nat.lt_of_lt_of_le (hlt c hc) hs12) (fun e => hfc e.2)
  refine ⟨fun i hi => ?_, (h.2.1.trans (h12.mono (fun c hc => by subst hc; exact hSb))).trans (h23.mono (fun c hc => hc.1.1)), fun c hc => ?_⟩
  · by_cases hij : i = j
    · subst hij
      rw [if_pos (Nat.lt_succ_self _), mkE_eq, ← hk]
      refine ⟨⟨(hcc _).trans d0, (hcc _).trans d1, (hcc _).trans d2⟩, A, cap, ?_, hp⟩
      rw [show (E.mk (kk : Int) ((kk : Int) + 1) (markB (kk + 2)) (mkL ks[i].kids (kk + 3))).kids.length = ks[i].kids.length from mkL_len _ _]
      exact (hcc _).trans d3
    · have hite : ∀ x y : E, (if i < j + 1 then x else y) = if i < j then x else y := by
        intro x y
        by_cases h1 : i < j
        · rw [if_pos h1, if_pos (by omega)]
        · rw [if_neg h1, if_neg (by omega)]
      have h0 := h.1 i hi
      rw [hite]
      refine h0.keep (fun q hq => ?_) (fun c hc hne hfc => ?_)
      · rw [hcc]
        exact hother _ (by omega)
      · exact (heap23 c hc hne (by omega)).trans (heap12 c hc hne)
  · by_cases hcb : c = b
    · subst hcb
      exact flat_of_eq hf2 hbb
    · by_cases hfc : f c = j
      · exact hf3 c ⟨⟨hc, hcb⟩, hfc⟩
      · exact flat_of_eq (h.2.2 c hc) ((heap23 c hc hcb hfc).trans (heap12 c hc hcb))
theorem MkRel.pd {w0 w1 : World} {base : Nat} {S : Nat → Prop} {f : Nat → Nat} {b o k : Nat} {ks : List E} (h : MkRel w0 base S f b o ks k ks.length w1) (hSb : S b) : PdD w1 S (mkL ks k) (some ⟨b, o, none⟩) := by
  refine .inr ⟨b, o, rfl, hSb, f, PdDC.mk fun i hi => ?_⟩
  have hi' : i < ks.length := by rw [mkL_len] at hi; exact hi
  have h0 := h.1 i hi'
  rw [if_pos hi'] at h0
  rw [mkL_get ks k i hi' hi, Nat.zero_add]
  exact h0
end Go.Proofs.YtkhcfhhejmkikaaGreatDoor

namespace Go.Proofs.YtkhcfhhejmkikaaGreatDoor
open Go.RowKit
set_option maxRecDepth 100000

/-- Two new blocks. -/
theorem two4 (w : World) (u0 u1 u2 u3 v0 v1 v2 v3 : Value) (t t' : TypeId) :
    Bx4 ((w.alloc (.cells #[u0, u1, u2, u3] t)).alloc (.cells #[v0, v1, v2, v3] t')) w.heap.size u0 u1 u2 u3 ∧ Bx4 ((w.alloc (.cells #[u0, u1, u2, u3] t)).alloc (.cells #[v0, v1, v2, v3] t')) (w.heap.size + 1) v0 v1 v2 v3 ∧
    w.heap.size + 1 < ((w.alloc (.cells #[u0, u1, u2, u3] t)).alloc (.cells #[v0, v1, v2, v3] t')).heap.size ∧ Below w.heap.size w ((w.alloc (.cells #[u0, u1, u2, u3] t)).alloc (.cells #[v0, v1, v2, v3] t')) := by
  have s1 : (w.alloc (.cells #[u0, u1, u2, u3] t)).heap.size = w.heap.size + 1 := World.size_alloc _ _
  have hal := (Below.refl _ (w.alloc (.cells #[u0, u1, u2, u3] t))).alloc (Nat.le_refl _) (.cells #[v0, v1, v2, v3] t')
  have X : Bx4 (w.alloc (.cells #[u0, u1, u2, u3] t)) w.heap.size u0 u1 u2 u3 := ⟨alloc_cell w _ _ _ 0, alloc_cell w _ _ _ 1, alloc_cell w _ _ _ 2, alloc_cell w _ _ _ 3⟩
  have Y : Bx4 ((w.alloc (.cells #[u0, u1, u2, u3] t)).alloc (.cells #[v0, v1, v2, v3] t')) (w.alloc (.cells #[u0, u1, u2, u3] t)).heap.size v0 v1 v2 v3 := ⟨alloc_cell _ _ _ _ 0, alloc_cell _ _ _ _ 1, alloc_cell _ _ _ _ 2, alloc_cell _ _ _ _ 3⟩
  rw [s1] at Y
  exact ⟨X.below hal (by rw [s1]; omega), Y, by rw [World.size_alloc, s1]; omega, two_boxes _ _ _⟩
/-- Are two expressions alike but for what is in their Kids? -/
def besB (a b : E) : Bool := decide (a.op = b.op ∧ a.n = b.n ∧ a.name = b.name ∧ a.kids.length = b.kids.length)
theorem besB_iff (a b : E) : besB a b = true ↔ a.op = b.op ∧ a.n = b.n ∧ a.name = b.name ∧ a.kids.length = b.kids.length := by unfold besB; rw [decide_eq_true_eq]
/-- Are two expressions alike but for their Kids, and how many these are? -/
def bes3 (a b : E) : Bool := decide (a.op = b.op ∧ a.n = b.n ∧ a.name = b.name)
theorem bes3_no {a b : E} (h : bes3 a b = false) : besB a b = false := by
  unfold bes3 at h
  unfold besB
  rw [decide_eq_false_iff_not] at *
  exact fun g => h ⟨g.1, g.2.1, g.2.2.1⟩
theorem bes3_len {a b : E} (h : a.kids.length ≠ b.kids.length) : besB a b = false := by
  unfold besB
  rw [decide_eq_false_iff_not]
  exact fun g => h g.2.2.2
theorem bes3_yes {a b : E} (h : bes3 a b = true) (hl : a.kids.length = b.kids.length) : besB a b = true := by
  unfold bes3 at h
  rw [decide_eq_true_eq] at h
  exact (besB_iff a b).2 ⟨h.1, h.2.1, h.2.2, hl⟩
set_option maxHeartbeats 1000000 in
theorem sameBeside_any (a b : E) (A : Option Addr) (cap : Nat) (A' : Option Addr) (cap' : Nat) (w : World) :
    Calls Tryz.prog 42 #[exV a A cap, exV b A' cap'] w (BoolB (bes3 a b) w) := by
  unfold exV
  obtain ⟨op, n, s, ks⟩ := a
  obtain ⟨op', n', s', ls⟩ := b
  have HQ := Lib.hid (show bes3 (E.mk op n s ks) (E.mk op' n' s' ls) = decide (op = op' ∧ n = n' ∧ s = s') from rfl)
  dsimp only [E.op, E.n, E.name, E.kids] at *
  have hb := two_boxes w (.cells #[.int .i64 op, .int .i64 n, .string s, .slice A ks.length cap] 24) (.cells #[.int .i64 op', .int .i64 n', .string s', .slice A' ls.length cap'] 24)
  generalize bes3 (E.mk op n s ks) (E.mk op' n' s' ls) = z at *
  by_cases h1 : op = op'
  · subst h1
    have p1 : (op == op) = true := by simp
    by_cases h2 : n = n'
    · subst h2
      have p2 : (n == n) = true := by simp
      by_cases h3 : s = s'
      · subst h3
        have p3 : (s.toList == s.toList) = true := by simp
        go_enter Tryz.func42, Tryz.ntmps42
        go_wp2_with fail
        go_ret
        exact ⟨ret_bool (by rw [HQ.out]; simp), hb⟩
      · have e2 : (s.toList == s'.toList) = false := str_eq_false h3
        have HC := Lib.hid h3; clear h3
        go_enter Tryz.func42, Tryz.ntmps42
        go_wp2_with fail
        go_ret
        exact ⟨ret_bool (by rw [HQ.out, eq_comm, decide_eq_false_iff_not]; exact fun h => HC.out h.2.2), hb⟩
    · have e1 : (n == n') = false := beq_no h2
      have HC := Lib.hid h2; clear h2
      go_enter Tryz.func42, Tryz.ntmps42
      go_wp2_with fail
      go_ret
      exact ⟨ret_bool (by rw [HQ.out, eq_comm, decide_eq_false_iff_not]; exact fun h => HC.out h.2.1), hb⟩
  · have e1 : (op == op') = false := beq_no h1
    have HC := Lib.hid h1; clear h1
    go_enter Tryz.func42, Tryz.ntmps42
    go_wp2_with fail
    go_ret
    exact ⟨ret_bool (by rw [HQ.out, eq_comm, decide_eq_false_iff_not]; exact fun h => HC.out h.1), hb⟩
/-- The model's SameExpr. -/
def SpSame (a : E) : Prop := ∀ (b : E) (A : Option Addr) (cap : Nat) (A' : Option Addr) (cap' : Nat) (w : World), RdS w w.heap.size a.kids A → RdS w w.heap.size b.kids A' → bulkE a ≤ 2000000 → bulkE b ≤ 2000000 →
  Calls Tryz.prog 22 #[exV a A cap, exV b A' cap'] w (BoolB (eqB a b) w)
open Classical in
set_option maxHeartbeats 4000000 in
theorem specSame_of (a : E) (H : ∀ k ∈ a.kids, SpSame k) : SpSame a := by
  intro b A cap A' cap' w hR hR' hl hsb
  obtain ⟨op, n, s, ks⟩ := a
  obtain ⟨op', n', s', ls⟩ := b
  have HK := fun i (h : i < ks.length) => H _ (List.getElem_mem (l := ks) h)
  clear H
  unfold SpSame exV at HK
  unfold exV
  replace HK := Lib.hid HK
  replace hl : bulkL ks ≤ 2000000 := by have h : s.size + bulkL ks ≤ 2000000 := hl; omega
  replace hsb : bulkL ls ≤ 2000000 := by have h : s'.size + bulkL ls ≤ 2000000 := hsb; omega
  have hn : ks.length ≤ 2000000 := by have := length_le_sizeL ks; have := sizeL_bulk ks; omega
  have hn' : ls.length ≤ 2000000 := by have := length_le_sizeL ls; have := sizeL_bulk ls; omega
  dsimp only [E.op, E.n, E.name, E.kids] at *
  obtain ⟨⟨u0, u1, u2, u3⟩, ⟨v0, v1, v2, v3⟩, hlt, hb⟩ := two4 w (.int .i64 op) (.int .i64 n) (.string s) (.slice A ks.length cap) (.int .i64 op') (.int .i64 n') (.string s') (.slice A' ls.length cap') 24 24
  have HR := Lib.hid (hR.on hb hb.size)
  have HR' := Lib.hid (hR'.on hb hb.size)
  have HKS := Lib.hid hl
  have HLS := Lib.hid hsb
  have HB := Lib.hid hb
  clear hR hR' hl hsb
  by_cases h1 : op = op'
  · subst h1
    have p1 : (op != op) = false := by simp
    by_cases h2 : n = n'
    · subst h2
      have p2 : (n != n) = false := by simp
      by_cases h3 : s = s'
      · subst h3
        have p3 : (s.toList == s.toList) = true := by simp
        by_cases h4 : ks.length = ls.length
        · have p4 : ((ks.length : Int) == (ls.length : Int)) = true := by rw [beq_iff_eq]; omega
          have p5 : ((ks.length : Int) != (ls.length : Int)) = false := by rw [bne, p4]; rfl
          have HL := Lib.hid h4
          have HQ := Lib.hid (eqB_same op n s ks ls)
          clear h4
          go_enter Tryz.func22, Tryz.ntmps22
          go_wp2_with fail
          have U := Lib.hid (show Bx4 _ w.heap.size _ _ _ _ from ⟨u0, u1, u2, u3⟩)
          have V := Lib.hid (show Bx4 _ (w.heap.size + 1) _ _ _ _ from ⟨v0, v1, v2, v3⟩)
          generalize (w.alloc (.cells #[.int .i64 op, .int .i64 n, .string s, .slice A ks.length cap] 24)).alloc (.cells #[.int .i64 op, .int .i64 n, .string s, .slice A' ls.length cap'] 24) = wa at *
          clear p1 p2 p3 p4 p5 u0 u1 u2 u3 v0 v1 v2 v3 hb
          have hlt0 : w.heap.size < wa.heap.size := by omega
          go_loopw [5] (fun i wr => ∃ (k : Nat), k ≤ ks.length ∧ i = .int .i64 k ∧ (∀ j, (h : j < ks.length) → (h' : j < ls.length) → j < k → ks[j] = ls[j]) ∧ Below wa.heap.size wa wr) (fun i _ => ks.length - (intOf i).toNat)
          case atStart => exact ⟨0, Nat.zero_le _, rfl, fun j _ _ hj => absurd hj (by omega), Below.refl _ _⟩
          case round =>
            obtain ⟨k, hk, rfl, hall, hb⟩ := hrel
            have hbs := hb.size
            have hbw := HB.out.trans (hb.mono HB.out.size)
            obtain ⟨u0, u1, u2, u3⟩ := U.out.below hb hlt0
            by_cases hltk : k < ks.length
            · have hlt' : k < ls.length := by have := HL.out; omega
              obtain ⟨v0, v1, v2, v3⟩ := V.out.below hb hlt
              obtain ⟨b, o, rfl, hB, ⟨c0, c1, c2⟩, A1, cap1, c3, hr⟩ := (HR.out.below hb).at_ hltk
              obtain ⟨b', o', rfl, hB', ⟨d0, d1, d2⟩, A2, cap2, d3, hr'⟩ := (HR'.out.below hb).at_ hlt'
              have hm1 : bulkE ks[k] ≤ 2000000 := by have := bulkL_mem (List.getElem_mem hltk); have := HKS.out; omega
              have hm2 : bulkE ls[k] ≤ 2000000 := by have := bulkL_mem (List.getElem_mem hlt'); have := HLS.out; omega
              have CK := HK.out k hltk ls[k] A1 cap1 A2 cap2 wr.drew ((hr.below (Below.refl _ wr).drew).more hbs) ((hr'.below (Below.refl _ wr).drew).more hbs) hm1 hm2
              have HA := Lib.hid hall; clear hall hm1 hm2 hr hr'
              generalize hs0 : ks[k] = x at *
              generalize hs1 : ls[k] = x' at *
              have HS := Lib.hid hs0; clear hs0
              have HS' := Lib.hid hs1; clear hs1
              obtain ⟨op1, n1, s1, kk⟩ := x
              obtain ⟨op2, n2, s2, kk'⟩ := x'
              dsimp only [E.op, E.n, E.name, E.kids] at c0 c1 c2 c3 d0 d1 d2 d3 CK
              have hBr : b < wr.heap.size := Nat.lt_of_lt_of_le hB hbs
              have hBr' : b' < wr.heap.size := Nat.lt_of_lt_of_le hB' hbs
              have hu : w.heap.size < wr.heap.size := Nat.lt_of_lt_of_le hlt0 hbs
              have hv : w.heap.size + 1 < wr.heap.size := Nat.lt_of_lt_of_le hlt hbs
              have HN : Hid (eqB (E.mk op1 n1 s1 kk) (E.mk op2 n2 s2 kk') = false → ks ≠ ls) := Lib.hid fun hd e => by
                have h1 := HS.out
                have h2 := HS'.out
                simp only [e] at h1
                rw [← h1, ← h2, eqB_yes] at hd
                cases hd
              have HD : Hid (eqB (E.mk op1 n1 s1 kk) (E.mk op2 n2 s2 kk') = true → E.mk op1 n1 s1 kk = E.mk op2 n2 s2 kk') := Lib.hid (eqB_iff _ _).1
              generalize eqB (E.mk op1 n1 s1 kk) (E.mk op2 n2 s2 kk') = z at *
              replace CK := Lib.hid CK
              go_wp2_with fail
              go_region_held3 (fun u => u.cell? ⟨w.heap.size, 3, none⟩ = some (.slice (some ⟨b, o, none⟩) ks.length cap) ∧ u.cell? ⟨w.heap.size + 1, 3, none⟩ = some (.slice (some ⟨b', o', none⟩) ls.length cap') ∧ u.cell? ⟨b, o + k * 4, none⟩ = some (.int .i64 op1) ∧ u.cell? ⟨b, o + k * 4 + 1, none⟩ = some (.int .i64 n1) ∧ u.cell? ⟨b, o + k * 4 + 2, none⟩ = some (.string s1) ∧ u.cell? ⟨b, o + k * 4 + 3, none⟩ = some (.slice A1 kk.length cap1) ∧ u.cell? ⟨b', o' + k * 4, none⟩ = some (.int .i64 op2) ∧ u.cell? ⟨b', o' + k * 4 + 1, none⟩ = some (.int .i64 n2) ∧ u.cell? ⟨b', o' + k * 4 + 2, none⟩ = some (.string s2) ∧ u.cell? ⟨b', o' + k * 4 + 3, none⟩ = some (.slice A2 kk'.length cap2)) (go_keep)
                (first | (go_at_call 22; (with_reducible refine Calls.mono CK.out ?_); rintro e w' ⟨rfl, hb1⟩; have t3 := (hb1.cell (p := ⟨w.heap.size, 3, none⟩) hu).trans u3; have r3 := (hb1.cell (p := ⟨w.heap.size + 1, 3, none⟩) hv).trans v3; have g0 := (hb1.cell (p := ⟨b, o + k * 4, none⟩) hBr).trans c0; have g1 := (hb1.cell (p := ⟨b, o + k * 4 + 1, none⟩) hBr).trans c1; have g2 := (hb1.cell (p := ⟨b, o + k * 4 + 2, none⟩) hBr).trans c2; have g3 := (hb1.cell (p := ⟨b, o + k * 4 + 3, none⟩) hBr).trans c3; have q0 := (hb1.cell (p := ⟨b', o' + k * 4, none⟩) hBr').trans d0; have q1 := (hb1.cell (p := ⟨b', o' + k * 4 + 1, none⟩) hBr').trans d1; have q2 := (hb1.cell (p := ⟨b', o' + k * 4 + 2, none⟩) hBr').trans d2; have q3 := (hb1.cell (p := ⟨b', o' + k * 4 + 3, none⟩) hBr').trans d3))
              have hb2 := hb.drew.trans (hb1.mono hbs)
              have hbw2 := hbw.drew.trans (hb1.mono (Nat.le_trans HB.out.size hbs))
              clear hb hb1 hbw
              cases z
              · go_wp2_with fail
                go_ret
                exact ⟨ret_bool (by rw [HQ.out, eqLB_no (HN.out (by trivial))]), hbw2⟩
              · go_wp2_with fail
                go_roundw
                case rel => exact ⟨k + 1, by omega, by go_num, fun j h1 h2 hjk => by
                  by_cases e : j = k
                  · subst e; exact (HS.out.trans (HD.out (by trivial))).trans HS'.out.symm
                  · exact HA.out j h1 h2 (by omega), hb2⟩
                case measure => simp only [intOf]; omega
            · obtain rfl : k = ks.length := by omega
              have HA := Lib.hid hall
              clear hall
              go_wp2_with fail
              go_ret
              refine ⟨ret_bool ?_, hbw⟩
              rw [HQ.out]
              unfold eqLB
              rw [eq_comm, decide_eq_true_eq]
              exact List.ext_getElem HL.out (fun j h1 h2 => HA.out j h1 h2 h1)
        · have p4 : ((ks.length : Int) == (ls.length : Int)) = false := beq_no (by omega)
          have p5 : ((ks.length : Int) != (ls.length : Int)) = true := by rw [bne, p4]; rfl
          have HC := Lib.hid h4; clear h4
          go_enter Tryz.func22, Tryz.ntmps22
          go_wp2_with fail
          go_ret
          exact ⟨ret_bool (by rw [eqB_no]; intro h; injection h with _ _ _ h; exact HC.out (by rw [h])), hb⟩
      · have e2 : (s.toList == s'.toList) = false := str_eq_false h3
        have HC := Lib.hid h3; clear h3
        go_enter Tryz.func22, Tryz.ntmps22
        go_wp2_with fail
        go_ret
        exact ⟨ret_bool (by rw [eqB_no]; intro h; injection h with _ _ h; exact HC.out h), hb⟩
    · have e1 : (n == n') = false := beq_no h2
      have e2 : (n != n') = true := by rw [bne, e1]; rfl
      have HC := Lib.hid h2; clear h2
      go_enter Tryz.func22, Tryz.ntmps22
      go_wp2_with fail
      go_ret
      exact ⟨ret_bool (by rw [eqB_no]; intro h; injection h with _ h; exact HC.out h), hb⟩
  · have e1 : (op == op') = false := beq_no h1
    have e2 : (op != op') = true := by rw [bne, e1]; rfl
    have HC := Lib.hid h1; clear h1
    go_enter Tryz.func22, Tryz.ntmps22
    go_wp2_with fail
    go_ret
    exact ⟨ret_bool (by rw [eqB_no]; intro h; injection h with h; exact HC.out h), hb⟩
theorem specSameExpr_any (a : E) : SpSame a := E.ind (P := SpSame) (fun e ih => specSame_of e ih) a
end Go.Proofs.YtkhcfhhejmkikaaGreatDoor
