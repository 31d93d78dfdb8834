/-
  Marks written into expressions whose lists of Kids lie in blocks that are all different; marks are held there.
-/
import Derived.Test.YtljdbjfbcjigaaaGreatDoorMg5
import Derived.Test.YtljdbjfbcjigaaaGreatDoorMg7
import Derived.Test.YtljdbjfbcjigaaaGreatDoorMs12
import Derived.Test.YtljdbjfbcjigaaaGreatDoorMs13
import Derived.Test.YtljdbjfbcjigaaaGreatDoorMs17
namespace Go.Proofs.YtljdbjfbcjigaaaGreatDoor
open Go.RowKit
set_option maxRecDepth 100000

/-- What the program's ReadExpr leaves. -/
def RdD (p : E × Bool) (w : World) (ee : Ending) (w' : World) : Prop :=
  ∃ (A : Option Addr) (c : Nat), ee = .returned (.tuple #[exV p.1 A c, .bool p.2]) ∧ PdD w' (Between w' w.heap.size w'.heap.size) p.1.kids A ∧ Below w.heap.size w w'
set_option maxHeartbeats 8000000 in
theorem implReadExpr_any (s : ByteArray) (w : World) (hs : s.size ≤ 1048576) (T : Tabs w) (N : NTabs w) (S : Sgn w) : Calls Tryz.prog 31 #[.string s] w (RdD (readF s) w) := by
  have hb0 := (Below.refl w.heap.size w).alloc (Nat.le_refl _) (.cells #[.int .i64 0, .int .i64 0, .string ⟨#[]⟩, .slice none 0 0] 28)
  have R0 := Lib.hid (Res.new w (.int .i64 0) (.int .i64 0) (.string ⟨#[]⟩) (.slice none 0 0) 28)
  have hz0 : (w.alloc (.cells #[.int .i64 0, .int .i64 0, .string ⟨#[]⟩, .slice none 0 0] 28)).heap.size = w.heap.size + 1 := World.size_alloc _ _
  have HB0 := Lib.hid hb0
  have SC := Lib.hid (implCutWords_any s (w.alloc (.cells #[.int .i64 0, .int .i64 0, .string ⟨#[]⟩, .slice none 0 0] 28)) hs (T.below hb0) (N.below hb0))
  have hlen := cutRes_len s
  cases hcr : cutRes s with
  | mk ws ok =>
  rw [hcr] at SC hlen
  have hlen' : ws.length ≤ 600 := hlen
  have HV := Lib.hid (words_four hcr)
  have none_ : ∀ W ww, Below w.heap.size w W → ww = ((((W.setCell ⟨w.heap.size, 0, none⟩ (.int .i64 0)).setCell ⟨w.heap.size, 1, none⟩ (.int .i64 0)).setCell ⟨w.heap.size, 2, none⟩ (.string ⟨#[]⟩)).setCell ⟨w.heap.size, 3, none⟩ (.slice none 0 0)) → RdD (E.none, false) w (.returned (.tuple #[.agg #[.int .i64 0, .int .i64 0, .string ⟨#[]⟩, .slice none 0 0], .bool false])) ww := by
    intro W ww hW hww
    subst hww
    exact ⟨none, 0, rfl, .inl rfl, below_four hW (Nat.le_refl _) _ _ _ _⟩
  have NN := Lib.hid none_
  have HT := Lib.hid (fun W (h : Below w.heap.size w W) => T.below h)
  have HN := Lib.hid (fun W (h : Below w.heap.size w W) => N.below h)
  have HS := Lib.hid (fun W (h : Below w.heap.size w W) => S.below h)
  clear none_ hlen hb0 T N S
  cases ok
  · rw [readF_no hcr]
    clear hcr
    go_enter Tryz.func31, Tryz.ntmps31
    go_wp2_with fail
    (with_reducible refine Calls.mono SC.out ?_)
    rintro ee w1 ⟨⟨v0, rfl, hO1⟩, hb1⟩
    have R1 := R0.out.below hb1 (by omega)
    have HB1 := Lib.hid (HB0.out.trans (hb1.mono HB0.out.size))
    obtain ⟨c0, c1, c2', c3⟩ := R1.c
    have f0 := R1.f 0
    have f1 := R1.f 1
    have f2 := R1.f 2
    have f3 := R1.f 3
    clear SC hO1 R1 R0 hb1 HB0 HT HN HS
    go_wp2_with fail
    refine bodyPost_ret (v := .tuple #[.agg #[.int .i64 0, .int .i64 0, .string ⟨#[]⟩, .slice none 0 0], .bool false]) (by simp [results, Tryz.results31, go_sem, c0, c1, c2', c3]) rfl ?_
    exact NN.out _ _ HB1.out rfl
  · rw [readF_ok hcr]
    clear hcr
    have RC := Lib.hid (readW_cases ws)
    have HLS := Lib.hid (fun e r => (rd_less nmB 6100).L 1 ws e r (by omega))
    have HBK := Lib.hid (fun e r => (rd_bulk nmB 6100).L 1 ws e r HV.out)
    go_enter Tryz.func31, Tryz.ntmps31
    go_wp2_with fail
    (with_reducible refine Calls.mono SC.out ?_)
    rintro ee w1 ⟨⟨v0, rfl, hO1⟩, hb1⟩
    obtain ⟨A0, cap0, rfl, hW1⟩ := words_own hO1
    have R1 := Lib.hid (R0.out.below hb1 (by omega))
    have HB1 := Lib.hid (HB0.out.trans (hb1.mono HB0.out.size))
    have hs1 := hb1.size
    have NR := Lib.hid (newExprReader_any A0 cap0 ws w1 hW1 (HS.out w1 HB1.out) (HN.out w1 HB1.out))
    clear SC hO1 R0 hb1 HB0 hW1
    go_wp2_with fail
    (with_reducible refine Calls.mono NR.out ?_)
    rintro ee w2 ⟨rfl, hX2, hR2, hb2⟩
    have L2 := Lib.hid ((imp_all w1.heap.size cap0 A0 ws hlen' HV.out 6100 6100 (Nat.le_refl _)).X 0 w2 (by omega) hX2 hR2)
    rw [List.drop_zero] at L2
    have hs2 := hb2.size
    have hR1w : w1.heap.size < w2.heap.size := hX2.cu.lt
    have R2 := Lib.hid (R1.out.below hb2 (by omega))
    have HB2 := Lib.hid (HB1.out.trans (hb2.mono HB1.out.size))
    have hw1 : w.heap.size < w1.heap.size := by omega
    clear NR hX2 hR2 hb2 R1 HB1 HV
    go_wp2_with fail
    (with_reducible refine Calls.mono L2.out ?_)
    rintro ee w3 ⟨hm3, ⟨k3, hc3, hd3⟩, x, A2, cc, rfl, hp3, hx⟩
    unfold exV
    have hal := (Below.refl w3.heap.size w3).alloc (Nat.le_refl _) (.cells #[.int .i64 x.op, .int .i64 x.n, .string x.name, .slice A2 x.kids.length cc] 28)
    have b0 := alloc_cell w3 #[.int .i64 x.op, .int .i64 x.n, .string x.name, .slice A2 x.kids.length cc] 28 (0, 0) 0
    have b1 := alloc_cell w3 #[.int .i64 x.op, .int .i64 x.n, .string x.name, .slice A2 x.kids.length cc] 28 (0, 0) 1
    have b2 := alloc_cell w3 #[.int .i64 x.op, .int .i64 x.n, .string x.name, .slice A2 x.kids.length cc] 28 (0, 0) 2
    have b3 := alloc_cell w3 #[.int .i64 x.op, .int .i64 x.n, .string x.name, .slice A2 x.kids.length cc] 28 (0, 0) 3
    replace b0 : (w3.alloc (.cells #[.int .i64 x.op, .int .i64 x.n, .string x.name, .slice A2 x.kids.length cc] 28)).cell? ⟨w3.heap.size, 0, none⟩ = some (.int .i64 x.op) := b0
    replace b1 : (w3.alloc (.cells #[.int .i64 x.op, .int .i64 x.n, .string x.name, .slice A2 x.kids.length cc] 28)).cell? ⟨w3.heap.size, 1, none⟩ = some (.int .i64 x.n) := b1
    replace b2 : (w3.alloc (.cells #[.int .i64 x.op, .int .i64 x.n, .string x.name, .slice A2 x.kids.length cc] 28)).cell? ⟨w3.heap.size, 2, none⟩ = some (.string x.name) := b2
    replace b3 : (w3.alloc (.cells #[.int .i64 x.op, .int .i64 x.n, .string x.name, .slice A2 x.kids.length cc] 28)).cell? ⟨w3.heap.size, 3, none⟩ = some (.slice A2 x.kids.length cc) := b3
    have hs3 := hm3.1.below.size
    have hs4 : w3.heap.size < (w3.alloc (.cells #[.int .i64 x.op, .int .i64 x.n, .string x.name, .slice A2 x.kids.length cc] 28)).heap.size := by rw [World.size_alloc]; omega
    have HB3 := Lib.hid (HB2.out.trans (hm3.1.below.mono (by omega : w.heap.size ≤ w1.heap.size)))
    have R3 := R2.out.below hm3.1.below hw1
    have HR4 := Lib.hid (R3.below hal R3.lt)
    have HB4 := Lib.hid (HB3.out.trans (hal.mono (by omega)))
    have HP4 := Lib.hid (PdD.later hp3 hal (Nat.le_refl _) hal.size)
    have HC4 := Lib.hid (hc3.below hal)
    have hk3 := hc3.le
    have HX := Lib.hid hx
    have HD := Lib.hid hd3
    clear L2 hm3 hc3 hd3 hp3 hx hal R2 R3 HB2 HB3
    go_upto_region 6 with (fail)
    generalize w3.alloc (.cells #[.int .i64 x.op, .int .i64 x.n, .string x.name, .slice A2 x.kids.length cc] 28) = w4 at *
    rcases RC.out with ⟨h1, h2⟩ | ⟨e, r, h1, h2⟩
    · have H2 := Lib.hid h2
      rw [h1]
      have e0 : (none : Option (E × List W)).isSome = false := rfl
      rw [e0]
      clear h1 h2 e0 RC HLS HBK HX HD HP4 HC4 HT HN HS
      obtain ⟨c0, c1, c2', c3⟩ := HR4.out.c
      have f0 := HR4.out.f 0
      have f1 := HR4.out.f 1
      have f2 := HR4.out.f 2
      have f3 := HR4.out.f 3
      go_wp2_with fail
      refine bodyPost_ret (v := .tuple #[.agg #[.int .i64 0, .int .i64 0, .string ⟨#[]⟩, .slice none 0 0], .bool false]) (by simp [results, Tryz.results31, go_sem, c0, c1, c2', c3]) rfl ?_
      rw [H2.out]
      exact NN.out _ _ HB4.out rfl
    · obtain rfl : x = e := HX.out _ h1
      obtain ⟨a1, a2, _, _⟩ := HLS.out _ _ h1
      have hbk := (HBK.out _ _ h1).2
      have hd := HD.out _ h1
      dsimp only at hd
      have H2 := Lib.hid h2
      rw [h1]
      have e0 : (some (x, r) : Option (E × List W)).isSome = true := rfl
      rw [e0]
      have AE := Lib.hid (atEnd_any w1.heap.size cap0 k3 A0 ws w4 HC4.out)
      clear h1 h2 e0 RC HLS HBK HX HD
      by_cases hr : r = []
      · subst hr
        have hk : k3 = ws.length := by
          have := List.drop_eq_nil_iff.1 hd
          omega
        rw [decide_eq_true hk] at AE
        clear hd hk hk3 a1 a2
        go_wp2_with fail
        (with_reducible refine Calls.mono AE.out ?_)
        rintro ee w5 ⟨rfl, rfl⟩
        have hb5 : Below w4.heap.size w4 w4.drew := (Below.refl _ _).drew
        have V5 := Lib.hid (implExprValid_any x A2 cc w4.drew ((PdD.later HP4.out hb5 (Nat.le_refl _) hb5.size).rd fun _ h => h.2.1) (by simp at hbk; omega) (HT.out _ (HB4.out.trans (hb5.mono HB4.out.size))) (HS.out _ (HB4.out.trans (hb5.mono HB4.out.size))))
        unfold exV at V5
        clear AE hbk HT HN HS HC4
        cases hv : validE x
        · rw [hv] at V5
          have H3 := Lib.hid (show readW ws = (E.none, false) by rw [H2.out, hv, if_neg (by simp)])
          clear hv
          go_wp2_with fail
          (with_reducible refine Calls.mono V5.out ?_)
          rintro ee w6 ⟨rfl, hb6⟩
          have hb7 := hb5.trans (hb6.mono hb5.size)
          have R6 := HR4.out.below hb7 HR4.out.lt
          have HB6 := Lib.hid (HB4.out.trans (hb7.mono HB4.out.size))
          have HR6 := Lib.hid R6
          clear V5 hb6 hb7 hb5 R6 b0 b1 b2 b3
          obtain ⟨c0, c1, c2', c3⟩ := HR6.out.c
          have f0 := HR6.out.f 0
          have f1 := HR6.out.f 1
          have f2 := HR6.out.f 2
          have f3 := HR6.out.f 3
          go_wp2_with fail
          refine bodyPost_ret (v := .tuple #[.agg #[.int .i64 0, .int .i64 0, .string ⟨#[]⟩, .slice none 0 0], .bool false]) (by simp [results, Tryz.results31, go_sem, c0, c1, c2', c3]) rfl ?_
          rw [H3.out]
          exact NN.out _ _ HB6.out rfl
        · rw [hv] at V5
          have H3 := Lib.hid (show readW ws = (x, true) by rw [H2.out, hv]; simp)
          clear hv
          go_wp2_with fail
          (with_reducible refine Calls.mono V5.out ?_)
          rintro ee w6 ⟨rfl, hb6⟩
          have hb7 := hb5.trans (hb6.mono hb5.size)
          have R6 := HR4.out.below hb7 HR4.out.lt
          have HB6 := Lib.hid (HB4.out.trans (hb7.mono HB4.out.size))
          have HP6 := Lib.hid (PdD.later HP4.out hb7 (Nat.le_refl _) hb7.size)
          have k0 := (hb7.cell (p := ⟨w3.heap.size, 0, none⟩) hs4).trans b0
          have k1 := (hb7.cell (p := ⟨w3.heap.size, 1, none⟩) hs4).trans b1
          have k2 := (hb7.cell (p := ⟨w3.heap.size, 2, none⟩) hs4).trans b2
          have k3' := (hb7.cell (p := ⟨w3.heap.size, 3, none⟩) hs4).trans b3
          obtain ⟨c0, c1, c2', c3⟩ := R6.c
          have f0 := R6.f 0
          have f1 := R6.f 1
          have f2 := R6.f 2
          have f3 := R6.f 3
          clear V5 hb6 hb7 hb5 R6 b0 b1 b2 b3
          go_wp2_with fail
          refine bodyPost_ret (v := .tuple #[.agg #[.int .i64 x.op, .int .i64 x.n, .string x.name, .slice A2 x.kids.length cc], .bool true]) (by simp [results, Tryz.results31, go_sem, c0, c1, c2', c3]) rfl ?_
          rw [H3.out]
          refine ⟨A2, cc, rfl, ?_, below_four HB6.out (Nat.le_refl _) _ _ _ _⟩
          have h := PdD.four' HP6.out (show w.heap.size < w2.heap.size by omega) (.int .i64 x.op) (.int .i64 x.n) (.string x.name) (.slice A2 x.kids.length cc)
          exact h.wide (by omega) (by simp)
      · have hk : ¬ k3 = ws.length := by
          intro hk
          apply hr
          rw [← hd, hk, List.drop_length]
        rw [decide_eq_false hk] at AE
        have H3 := Lib.hid (show readW ws = (E.none, false) by rw [H2.out, if_neg (fun h => hr h.1)])
        clear hd hk hk3 a1 a2 hbk hr HT HN HS HP4 HC4
        go_wp2_with fail
        (with_reducible refine Calls.mono AE.out ?_)
        rintro ee w5 ⟨rfl, rfl⟩
        have hb5 : Below w4.heap.size w4 w4.drew := (Below.refl _ _).drew
        have HR5 := Lib.hid (HR4.out.below hb5 HR4.out.lt)
        have HB5 := Lib.hid (HB4.out.trans (hb5.mono HB4.out.size))
        clear AE hb5 b0 b1 b2 b3
        obtain ⟨c0, c1, c2', c3⟩ := HR4.out.c
        have f0 := HR4.out.f 0
        have f1 := HR4.out.f 1
        have f2 := HR4.out.f 2
        have f3 := HR4.out.f 3
        go_wp2_with fail
        refine bodyPost_ret (v := .tuple #[.agg #[.int .i64 0, .int .i64 0, .string ⟨#[]⟩, .slice none 0 0], .bool false]) (by simp [results, Tryz.results31, go_sem, c0, c1, c2', c3]) rfl ?_
        rw [H3.out]
        exact NN.out _ _ HB5.out rfl
end Go.Proofs.YtljdbjfbcjigaaaGreatDoor

namespace Go.Proofs.YtljdbjfbcjigaaaGreatDoor
open Go.RowKit
set_option maxRecDepth 100000

mutual
/-- A part with its marks, from the number k on. -/
def mkE : E → Nat → E
  | .mk _ _ _ ks, k => .mk (k : Int) ((k : Int) + 1) (markB (k + 2)) (mkL ks (k + 3))
def mkL : List E → Nat → List E
  | [], _ => []
  | e :: ks, k => mkE e k :: mkL ks (k + 3 * sizeE e)
end
theorem mkE_eq (e : E) (k : Nat) : mkE e k = .mk (k : Int) ((k : Int) + 1) (markB (k + 2)) (mkL e.kids (k + 3)) := by cases e; rw [mkE]; rfl
theorem mkL_len : ∀ (ks : List E) (k : Nat), (mkL ks k).length = ks.length
  | [], _ => by rw [mkL]
  | e :: ks, k => by rw [mkL, List.length_cons, List.length_cons, mkL_len ks]
theorem mkL_get : ∀ (ks : List E) (k i : Nat) (h : i < ks.length) (h' : i < (mkL ks k).length), (mkL ks k)[i] = mkE ks[i] (k + 3 * sizeL (ks.take i))
  | [], _, i, h, _ => absurd h (by simp)
  | e :: ks, k, 0, _, h' => by
    simp only [mkL, List.getElem_cons_zero, List.take_zero]
    rfl
  | e :: ks, k, i + 1, h, h' => by
    simp only [mkL, List.getElem_cons_succ, List.take_succ_cons]
    rw [mkL_get ks (k + 3 * sizeE e) i (by simpa using h) (by rw [mkL_len]; simpa using h)]
    congr 1
    show _ = k + 3 * (sizeE e + sizeL (ks.take i))
    omega
theorem flat_free {w : World} {b : Nat} (h : Flat w b) (o : Nat) : w.frozen? ⟨b, o, none⟩ = false := by
  obtain ⟨cs, t, h⟩ := h
  exact frozen_of_row w b o cs t h
/-- Only blocks of a kind are written. -/
structure Upd (base : Nat) (S : Nat → Prop) (w w' : World) : Prop where
  below : Below base w w'
  same : ∀ b, b < w.heap.size → ¬ S b → w'.heap[b]? = w.heap[b]?
theorem Upd.refl (base : Nat) (S : Nat → Prop) (w : World) : Upd base S w w := ⟨Below.refl _ _, fun _ _ _ => rfl⟩
theorem Upd.trans {base : Nat} {S : Nat → Prop} {a b c : World} (h : Upd base S a b) (k : Upd base S b c) : Upd base S a c :=
  ⟨h.below.trans k.below, fun i h1 h2 => (k.same i (Nat.lt_of_lt_of_le h1 h.below.size) h2).trans (h.same i h1 h2)⟩
theorem Upd.mono {base : Nat} {S S' : Nat → Prop} {a b : World} (h : Upd base S a b) (hs : ∀ c, S c → S' c) : Upd base S' a b := ⟨h.below, fun i h1 h2 => h.same i h1 (fun e => h2 (hs i e))⟩
theorem Upd.of_below {base : Nat} {S : Nat → Prop} {a b : World} (h : Below a.heap.size a b) (hb : base ≤ a.heap.size) : Upd base S a b := ⟨h.mono hb, fun i h1 _ => h.block i h1⟩
theorem Upd.set {base : Nat} {S : Nat → Prop} {w : World} {b : Nat} (hS : S b) (hb : base ≤ b) (o : Nat) (v : Value) : Upd base S w (w.setCell ⟨b, o, none⟩ v) :=
  ⟨(Below.refl _ _).setCell (p := ⟨b, o, none⟩) hb _, fun i _ h2 => by
    show (w.heap.modify b _)[i]? = _
    rw [Array.getElem?_modify, if_neg (by intro e; subst e; exact h2 hS)]⟩
/-- A list's element, with the colour of what lies below it. -/
def AtC (w : World) (S : Nat → Prop) (f : Nat → Nat) (b o i : Nat) (e : E) : Prop := PdDAt w (fun c => S c ∧ f c = i) e b (o + i * 4)
/-- Behind j elements. -/
def MkRel (w0 : World) (base : Nat) (S : Nat → Prop) (f : Nat → Nat) (b o : Nat) (ks : List E) (k j : Nat) (wr : World) : Prop :=
  (∀ i, (h : i < ks.length) → AtC wr (fun c => S c ∧ c ≠ b) f b o i (if i < j then mkE ks[i] (k + 3 * sizeL (ks.take i)) else ks[i])) ∧ Upd base S w0 wr ∧ ∀ c, S c → Flat wr c
theorem flat_set {w : World} {c : Nat} (h : Flat w c) (p : Addr) (v : Value) : Flat (w.setCell p v) c := h.set p v
/-- An element that lies elsewhere stays. -/
theorem AtC.keep {w w' : World} {S : Nat → Prop} {f : Nat → Nat} {b o i : Nat} {e : E} (h : AtC w (fun c => S c ∧ c ≠ b) f b o i e) (hb : ∀ j, j < 4 → w'.cell? ⟨b, o + i * 4 + j, none⟩ = w.cell? ⟨b, o + i * 4 + j, none⟩)
    (hs : ∀ c, S c → c ≠ b → f c = i → w'.heap[c]? = w.heap[c]?) : AtC w' (fun c => S c ∧ c ≠ b) f b o i e := by
  obtain ⟨⟨c0, c1, c2⟩, A, cap, c3, hp⟩ := h
  have b0 := hb 0 (by omega)
  rw [Nat.add_zero] at b0
  refine ⟨⟨b0.trans c0, (hb 1 (by omega)).trans c1, (hb 2 (by omega)).trans c2⟩, A, cap, (hb 3 (by omega)).trans c3, ?_⟩
  exact hp.keep (fun c o hc => World.cell?_of_block (hs c hc.1.1 hc.1.2 hc.2)) (fun c hc => hc)
theorem cell_set_ne (w : World) (b o o' : Nat) (v : Value) (h : o' ≠ o) : (w.setCell ⟨b, o, none⟩ v).cell? ⟨b, o', none⟩ = w.cell? ⟨b, o', none⟩ := World.cell?_setCell_other _ _ _ _ (by intro e; injection e with _ e; exact h e.symm)
/-- One element more: three stores, and its Kids. -/
theorem MkRel.step {w0 w1 w2 w3 : World} {base : Nat} {S : Nat → Prop} {f : Nat → Nat} {b o k j : Nat} {ks : List E} (h : MkRel w0 base S f b o ks k j w1) (hj : j < ks.length) (hSb : S b) (hlt : ∀ c, S c → c < w1.heap.size) {A : Option Addr} {cap : Nat} {kk : Nat} (hk : kk = k + 3 * sizeL (ks.take j))
    (h12 : Upd base (fun c => c = b) w1 w2) (hf2 : Flat w2 b)
    (d0 : w2.cell? ⟨b, o + j * 4, none⟩ = some (.int .i64 (kk : Int))) (d1 : w2.cell? ⟨b, o + j * 4 + 1, none⟩ = some (.int .i64 ((kk : Int) + 1))) (d2 : w2.cell? ⟨b, o + j * 4 + 2, none⟩ = some (.string (markB (kk + 2)))) (d3 : w2.cell? ⟨b, o + j * 4 + 3, none⟩ = some (.slice A ks[j].kids.length cap))
    (hother : ∀ p, p < o + j * 4 ∨ o + j * 4 + 4 ≤ p → w2.cell? ⟨b, p, none⟩ = w1.cell? ⟨b, p, none⟩)
    (hp : PdD w3 (fun c => (S c ∧ c ≠ b) ∧ f c = j) (mkL ks[j].kids (kk + 3)) A) (h23 : Upd base (fun c => (S c ∧ c ≠ b) ∧ f c = j) w2 w3) (hf3 : ∀ c, (S c ∧ c ≠ b) ∧ f c = j → Flat w3 c) :
    MkRel w0 base S f b o ks k (j + 1) w3 := by
  have hs12 := h12.below.size
  have hb2 : b < w2.heap.size := Nat.lt_of_lt_of_le (hlt b hSb) hs12
  have hbb : w3.heap[b]? = w2.heap[b]? := h23.same b hb2 (fun e => e.1.2 rfl)
  have hcc : ∀ p, w3.cell? ⟨b, p, none⟩ = w2.cell? ⟨b, p, none⟩ := fun p => World.cell?_of_block hbb
  have heap12 : ∀ c, S c → c ≠ b → w2.heap[c]? = w1.heap[c]? := fun c hc hne => h12.same c (hlt c hc) hne
  have heap23 : ∀ c, S c → c ≠ b → f c ≠ j → w3.heap[c]? = w2.heap[c]? := fun c hc hne hfc => h23.same c (Nat.lt_of_lt_of_le (hlt c hc) hs12) (fun e => hfc e.2)
  refine ⟨fun i hi => ?_, (h.2.1.trans (h12.mono (fun c hc => by subst hc; exact hSb))).trans (h23.mono (fun c hc => hc.1.1)), fun c hc => ?_⟩
  · by_cases hij : i = j
    · subst hij
      rw [if_pos (Nat.lt_succ_self _), mkE_eq, ← hk]
      refine ⟨⟨(hcc _).trans d0, (hcc _).trans d1, (hcc _).trans d2⟩, A, cap, ?_, hp⟩
      rw [show (E.mk (kk : Int) ((kk : Int) + 1) (markB (kk + 2)) (mkL ks[i].kids (kk + 3))).kids.length = ks[i].kids.length from mkL_len _ _]
      exact (hcc _).trans d3
    · have hite : ∀ x y : E, (if i < j + 1 then x else y) = if i < j then x else y := by
        intro x y
        by_cases h1 : i < j
        · rw [if_pos h1, if_pos (by omega)]
        · rw [if_neg h1, if_neg (by omega)]
      have h0 := h.1 i hi
      rw [hite]
      refine h0.keep (fun q hq => ?_) (fun c hc hne hfc => ?_)
      · rw [hcc]
        exact hother _ (by omega)
      · exact (heap23 c hc hne (by omega)).trans (heap12 c hc hne)
  · by_cases hcb : c = b
    · subst hcb
      exact flat_of_eq hf2 hbb
    · by_cases hfc : f c = j
      · exact hf3 c ⟨⟨hc, hcb⟩, hfc⟩
      · exact flat_of_eq (h.2.2 c hc) ((heap23 c hc hcb hfc).trans (heap12 c hc hcb))
theorem MkRel.pd {w0 w1 : World} {base : Nat} {S : Nat → Prop} {f : Nat → Nat} {b o k : Nat} {ks : List E} (h : MkRel w0 base S f b o ks k ks.length w1) (hSb : S b) : PdD w1 S (mkL ks k) (some ⟨b, o, none⟩) := by
  refine .inr ⟨b, o, rfl, hSb, f, PdDC.mk fun i hi => ?_⟩
  have hi' : i < ks.length := by rw [mkL_len] at hi; exact hi
  have h0 := h.1 i hi'
  rw [if_pos hi'] at h0
  rw [mkL_get ks k i hi' hi, Nat.zero_add]
  exact h0
end Go.Proofs.YtljdbjfbcjigaaaGreatDoor
