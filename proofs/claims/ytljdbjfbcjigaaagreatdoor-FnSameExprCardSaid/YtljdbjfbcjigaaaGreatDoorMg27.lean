/-
  Words put behind a list by the program: statements, blocks.
-/
import Derived.Test.YtljdbjfbcjigaaaGreatDoorMg12
import Derived.Test.YtljdbjfbcjigaaaGreatDoorMg25
import Derived.Test.YtljdbjfbcjigaaaGreatDoorMg26
namespace Go.Proofs.YtljdbjfbcjigaaaGreatDoor
open Go.RowKit Go.Maps
set_option maxRecDepth 100000

theorem BxL.put {w w' : World} {base k : Nat} {v v' : Value} {l : List Value} (h : BxL w k l) (hp : Put base v v' w w') (hk : k < w.heap.size) (hne : v.ownBlock ≠ some k) : BxL w' k l :=
  fun j u hu => (hp.cell hk hne).trans (h j u hu)
/-- What the world keeps for a callee that knows the forms. -/
def EnvF (base : Nat) (w : World) : Prop := Env base w ∧ ∀ W, Below base w W → Fms W
theorem EnvF.next {base : Nat} {w w' : World} (h : EnvF base w) (hb : Below base w w') : EnvF base w' := ⟨h.1.next hb, fun W hw => h.2 W (hb.trans hw)⟩
theorem fKey_eq {op : Int} (h : 1 ≤ op ∧ op ≤ 8) : fKey op = keyT op := by
  have h3 : op = 1 ∨ op = 2 ∨ op = 3 ∨ op = 4 ∨ op = 5 ∨ op = 6 ∨ op = 7 ∨ op = 8 := by omega
  rcases h3 with rfl | rfl | rfl | rfl | rfl | rfl | rfl | rfl <;> rfl
theorem key_pos {op : Int} (h : 1 ≤ op ∧ op ≤ 8) (h2 : op ≠ 2) : 0 < (keyT op).size := by
  have h3 : op = 1 ∨ op = 3 ∨ op = 4 ∨ op = 5 ∨ op = 6 ∨ op = 7 ∨ op = 8 := by omega
  rcases h3 with rfl | rfl | rfl | rfl | rfl | rfl | rfl <;> decide
theorem key_kind {s : ByteArray} (h : isKeyB s = true) : runKind s = 4 := by unfold runKind; rw [h, if_pos rfl]
theorem kind_sc : runKind scS = 3 := runKind_sign (by decide)
theorem kind_eq : runKind eqS = 3 := runKind_sign (by decide)
theorem kind_lb : runKind lbS = 3 := runKind_sign (by decide)
theorem kind_rb : runKind rbS = 3 := runKind_sign (by decide)
theorem kind_else : runKind elseS = 4 := key_kind (by decide +kernel)
theorem kind_fn : runKind fnS = 4 := key_kind (by decide +kernel)
/-- Putting a block's words, for statements nested at most so deep. -/
def AddB (d : Nat) : Prop := ∀ (ks : List St) (_ : ∀ t ∈ ks, formT d t = true) (A : Option Addr) (cap : Nat) (w : World) (base : Nat) (v : Value) (l : List W), WRow w base v l → EnvF base w → StS w (Lt base) ks A → l.length + 400 * sizeTL ks + 2 ≤ 900000 →
  Calls Tryz.prog 125 #[v, .slice A ks.length cap] w (AddRet base v (l ++ blkW ks) w)

set_option maxHeartbeats 4000000 in
theorem addStmt_let (op : Int) (ho : 1 ≤ op ∧ op ≤ 8) (s : ByteArray) (a : List E) (ha : ∀ e ∈ a, validE e = true) (ha2 : a.length ≤ 2) (bd el : List St) (A1 A2 A3 : Option Addr) (p1 p2 p3 : Nat) (w : World) (base : Nat) (v : Value) (l : List W)
    (hW : WRow w base v l) (hE : EnvF base w) (hR : RdS w base a A1) (hl : l.length + 400 ≤ 900000) (hk2 : op ≠ 2) (hnm : nameB s = true) (hno : op = 1 ∨ op = 2) (hwo : ¬ (op = 5 ∨ op = 6)) :
    Calls Tryz.prog 174 #[v, .agg #[.int .i64 op, .string s, .slice A1 a.length p1, .slice A2 bd.length p2, .slice A3 el.length p3]] w (AddRet base v (l ++ (([(4, keyT op)] ++ [(1, s), (3, eqS)]) ++ (argsW a ++ [(3, scS)]))) w) := by
  have HWT := Lib.hid (show l ++ (([(4, keyT op)] ++ [(1, s), (3, eqS)]) ++ (argsW a ++ [(3, scS)])) = (((l ++ [(4, keyT op)]) ++ [(1, s), (3, eqS)]) ++ argsW a) ++ [(3, scS)] by simp only [List.append_assoc])
  generalize hgoal : l ++ (([(4, keyT op)] ++ [(1, s), (3, eqS)]) ++ (argsW a ++ [(3, scS)])) = lw at *
  clear hgoal
  have hbs := hE.1.1
  have K0 := Lib.hid (BxL.new w [.int .i64 op, .string s, .slice A1 a.length p1, .slice A2 bd.length p2, .slice A3 el.length p3] 209)
  have hlt : w.heap.size < (w.alloc (.cells #[.int .i64 op, .string s, .slice A1 a.length p1, .slice A2 bd.length p2, .slice A3 el.length p3] 209)).heap.size := by rw [World.size_alloc]; omega
  have hb : Below w.heap.size w (w.alloc (.cells #[.int .i64 op, .string s, .slice A1 a.length p1, .slice A2 bd.length p2, .slice A3 el.length p3] 209)) := (Below.refl _ _).alloc (Nat.le_refl _) _
  have e0 : w.alloc (.cells [.int .i64 op, .string s, .slice A1 a.length p1, .slice A2 bd.length p2, .slice A3 el.length p3].toArray 209) = w.alloc (.cells #[.int .i64 op, .string s, .slice A1 a.length p1, .slice A2 bd.length p2, .slice A3 el.length p3] 209) := rfl
  rw [e0] at K0
  clear e0
  have HF0 := Lib.hid (hW.free (Nat.le_refl w.heap.size))
  have HWa := Lib.hid (hW.below hb)
  have HPa := Lib.hid (Put.of_below (v := v) hb hbs)
  have HEV := Lib.hid hE
  have FO := fun W (h : Below base w W) => formOf_any op W (hE.2 W h)
  unfold FormRet at FO
  rw [if_pos ho, decide_eq_true ho] at FO
  unfold formV at FO
  rw [fKey_eq ho] at FO
  have AA := fun W v' l' (h1 : WRow W base v' l') (h2 : Below base w W) (h3 : l'.length + 6 * sizeL a + 1 ≤ 1000000) => Lib.hid (addListed_any 6 (fun e he => addExpr_any 6 e he) a (fun e he => validE_form (ha e he)) A1 p1 W base v' l' h1 (hE.1.next h2) (hR.below h2) h3)
  have hsa : sizeL a ≤ 60 := by have := args_size ha; omega
  have HLA := Lib.hid (argsW_len ha)
  have HHD := Lib.hid (headW_len op s)
  have hk1 := key_pos ho hk2
  have hkk := key_kind (key_of ho hk2)
  have hke := full_str (s := keyT op) (fun h => by rw [h] at hk1; exact absurd hk1 (by decide))
  have hnp := name_pos hnm
  have hnk := runKind_name hnm
  rw [show nmdB op = true from decide_eq_true hno, show wbB op = false from decide_eq_false hwo] at FO
  replace FO := fun W h => Lib.hid (FO W h)
  generalize keyT op = K at *
  clear hE hR hW ha hk2
  generalize weB op = we at *
  generalize clB op = cb at *
  generalize argN op = an at *
  go_enter Tryz.func174, Tryz.ntmps174
  go_upto_region 1 with (fail)
  generalize w.alloc (.cells #[.int .i64 op, .string s, .slice A1 a.length p1, .slice A2 bd.length p2, .slice A3 el.length p3] 209) = wa at *
  have FO1 := Lib.hid (FO wa HPa.out.below).out
  have k0 := K0.out 0 _ rfl
  clear FO
  go_wp2_with fail
  (with_reducible refine Calls.mono FO1.out ?_)
  rintro ee w1 ⟨rfl, hb1⟩
  have hs1 := hb1.size
  have G2 := Lib.hid (BxL.new w1 [.int .i64 op, .string K, .bool true, .int .i64 (an : Int), .bool cb, .bool false, .bool we] 282)
  have e2 : w1.alloc (.cells [.int .i64 op, .string K, .bool true, .int .i64 (an : Int), .bool cb, .bool false, .bool we].toArray 282) = w1.alloc (.cells #[.int .i64 op, .string K, .bool true, .int .i64 (an : Int), .bool cb, .bool false, .bool we] 282) := rfl
  rw [e2] at G2
  clear e2
  have hal : Below w1.heap.size w1 (w1.alloc (.cells #[.int .i64 op, .string K, .bool true, .int .i64 (an : Int), .bool cb, .bool false, .bool we] 282)) := (Below.refl _ _).alloc (Nat.le_refl _) _
  have hlg2 : w1.heap.size < (w1.alloc (.cells #[.int .i64 op, .string K, .bool true, .int .i64 (an : Int), .bool cb, .bool false, .bool we] 282)).heap.size := by rw [World.size_alloc]; omega
  have hb12 := hb1.trans (hal.mono hs1)
  have hba : base ≤ wa.heap.size := Nat.le_trans hbs (Nat.le_of_lt hlt)
  have K2 := Lib.hid (K0.out.below hb12 hlt)
  have hlt2 : w.heap.size < (w1.alloc (.cells #[.int .i64 op, .string K, .bool true, .int .i64 (an : Int), .bool cb, .bool false, .bool we] 282)).heap.size := Nat.lt_of_lt_of_le hlt hb12.size
  have HW2 := Lib.hid (HWa.out.below hb12)
  have HP2 := Lib.hid (HPa.out.trans (Put.of_below (v := v) hb12 hba))
  have HG0 := Lib.hid ((HWa.out.below hb1).free (Nat.le_refl w1.heap.size))
  clear FO1 hb1 hal hb12 HWa HPa k0 K0 hlt hb
  go_upto_region 2 with (fail)
  generalize w1.alloc (.cells #[.int .i64 op, .string K, .bool true, .int .i64 (an : Int), .bool cb, .bool false, .bool we] 282) = w2 at *
  have g1 := G2.out 1 _ rfl
  have HF2 := HF0
  have HG2 := HG0
  clear HF0 HG0
  have AS2 := Lib.hid (addText_one base v l K 4 w2 HW2.out (HEV.out.1.next HP2.out.below) hk1 hkk (by omega))
  obtain ⟨hke1, hke2⟩ := hke
  go_wp2_with fail
  (with_reducible refine Calls.mono AS2.out ?_)
  rintro ee w3 ⟨v3, rfl, hW3, hp3⟩
  have K3 := Lib.hid (K2.out.put hp3 hlt2 HF2.out)
  have G3 := Lib.hid (G2.out.put hp3 hlg2 HG2.out)
  have HF3 := Lib.hid (hp3.ne hlt2 HF2.out)
  have HG3 := Lib.hid (hp3.ne hlg2 HG2.out)
  have hlt3 := Nat.lt_of_lt_of_le hlt2 hp3.below.size
  have hlg3 := Nat.lt_of_lt_of_le hlg2 hp3.below.size
  have HP3 := Lib.hid (HP2.out.trans hp3)
  have HW3 := Lib.hid hW3
  clear hp3 hW3 AS2 K2 G2 HF2 HG2 hlt2 hlg2 HP2 HW2 g1 hke1 hke2
  have k1 := K3.out 1 _ rfl
  have g2 := G3.out 2 _ rfl
  have AS3 := Lib.hid (addText_two base v3 (l ++ [(4, K)]) s ⟨#[61]⟩ 1 3 w3 HW3.out (HEV.out.1.next HP3.out.below) hnp (by decide) hnk kind_eq (by (try simp only [List.length_append, List.length_cons, List.length_nil]); omega))
  go_wp2_with fail
  (with_reducible refine Calls.mono AS3.out ?_)
  rintro ee w4 ⟨v4, rfl, hW4, hp4⟩
  have K4 := Lib.hid (K3.out.put hp4 hlt3 HF3.out)
  have G4 := Lib.hid (G3.out.put hp4 hlg3 HG3.out)
  have HF4 := Lib.hid (hp4.ne hlt3 HF3.out)
  have HG4 := Lib.hid (hp4.ne hlg3 HG3.out)
  have hlt4 := Nat.lt_of_lt_of_le hlt3 hp4.below.size
  have hlg4 := Nat.lt_of_lt_of_le hlg3 hp4.below.size
  have HP4 := Lib.hid (HP3.out.trans hp4)
  have HW4 := Lib.hid hW4
  clear hp4 hW4 AS3 K3 G3 HF3 HG3 hlt3 hlg3 HP3 HW3 k1 g2 
  have k2 := K4.out 2 _ rfl
  have AS4 := Lib.hid (AA w4 v4 _ HW4.out HP4.out.below (by (try simp only [List.length_append, List.length_cons, List.length_nil]); omega)).out
  go_wp2_with fail
  (with_reducible refine Calls.mono AS4.out ?_)
  rintro ee w5 ⟨v5, rfl, hW5, hp5⟩
  have K5 := Lib.hid (K4.out.put hp5 hlt4 HF4.out)
  have G5 := Lib.hid (G4.out.put hp5 hlg4 HG4.out)
  have HF5 := Lib.hid (hp5.ne hlt4 HF4.out)
  have HG5 := Lib.hid (hp5.ne hlg4 HG4.out)
  have hlt5 := Nat.lt_of_lt_of_le hlt4 hp5.below.size
  have hlg5 := Nat.lt_of_lt_of_le hlg4 hp5.below.size
  have HP5 := Lib.hid (HP4.out.trans hp5)
  have HW5 := Lib.hid hW5
  clear hp5 hW5 AS4 K4 G4 HF4 HG4 hlt4 hlg4 HP4 HW4 AA k2 
  have g5 := G5.out 5 _ rfl
  have AS5 := Lib.hid (addText_one base v5 _ ⟨#[59]⟩ 3 w5 HW5.out (HEV.out.1.next HP5.out.below) (by decide) kind_sc (by have h1 := HLA.out; unfold argsW at h1; (try simp only [List.length_append, List.length_cons, List.length_nil]); omega))
  go_wp2_with fail
  (with_reducible refine Calls.mono AS5.out ?_)
  rintro ee w6 ⟨v6, rfl, hW6, hp6⟩
  have K6 := Lib.hid (K5.out.put hp6 hlt5 HF5.out)
  have G6 := Lib.hid (G5.out.put hp6 hlg5 HG5.out)
  have HF6 := Lib.hid (hp6.ne hlt5 HF5.out)
  have HG6 := Lib.hid (hp6.ne hlg5 HG5.out)
  have hlt6 := Nat.lt_of_lt_of_le hlt5 hp6.below.size
  have hlg6 := Nat.lt_of_lt_of_le hlg5 hp6.below.size
  have HP6 := Lib.hid (HP5.out.trans hp6)
  have HW6 := Lib.hid hW6
  clear hp6 hW6 AS5 K5 G5 HF5 HG5 hlt5 hlg5 HP5 HW5 g5
  go_wp2_with fail
  go_ret
  exact ⟨_, rfl, by rw [HWT.out]; exact HW6.out, HP6.out⟩
set_option maxHeartbeats 4000000 in
theorem addStmt_set (op : Int) (ho : 1 ≤ op ∧ op ≤ 8) (s : ByteArray) (a : List E) (ha : ∀ e ∈ a, validE e = true) (ha2 : a.length ≤ 2) (bd el : List St) (A1 A2 A3 : Option Addr) (p1 p2 p3 : Nat) (w : World) (base : Nat) (v : Value) (l : List W)
    (hW : WRow w base v l) (hE : EnvF base w) (hR : RdS w base a A1) (hl : l.length + 400 ≤ 900000) (hop2 : op = 2) (hnm : nameB s = true) (hno : op = 1 ∨ op = 2) (hwo : ¬ (op = 5 ∨ op = 6)) :
    Calls Tryz.prog 174 #[v, .agg #[.int .i64 op, .string s, .slice A1 a.length p1, .slice A2 bd.length p2, .slice A3 el.length p3]] w (AddRet base v (l ++ ([(1, s), (3, eqS)] ++ (argsW a ++ [(3, scS)]))) w) := by
  have HWT := Lib.hid (show l ++ ([(1, s), (3, eqS)] ++ (argsW a ++ [(3, scS)])) = ((l ++ [(1, s), (3, eqS)]) ++ argsW a) ++ [(3, scS)] by simp only [List.append_assoc])
  generalize hgoal : l ++ ([(1, s), (3, eqS)] ++ (argsW a ++ [(3, scS)])) = lw at *
  clear hgoal
  have hbs := hE.1.1
  have K0 := Lib.hid (BxL.new w [.int .i64 op, .string s, .slice A1 a.length p1, .slice A2 bd.length p2, .slice A3 el.length p3] 209)
  have hlt : w.heap.size < (w.alloc (.cells #[.int .i64 op, .string s, .slice A1 a.length p1, .slice A2 bd.length p2, .slice A3 el.length p3] 209)).heap.size := by rw [World.size_alloc]; omega
  have hb : Below w.heap.size w (w.alloc (.cells #[.int .i64 op, .string s, .slice A1 a.length p1, .slice A2 bd.length p2, .slice A3 el.length p3] 209)) := (Below.refl _ _).alloc (Nat.le_refl _) _
  have e0 : w.alloc (.cells [.int .i64 op, .string s, .slice A1 a.length p1, .slice A2 bd.length p2, .slice A3 el.length p3].toArray 209) = w.alloc (.cells #[.int .i64 op, .string s, .slice A1 a.length p1, .slice A2 bd.length p2, .slice A3 el.length p3] 209) := rfl
  rw [e0] at K0
  clear e0
  have HF0 := Lib.hid (hW.free (Nat.le_refl w.heap.size))
  have HWa := Lib.hid (hW.below hb)
  have HPa := Lib.hid (Put.of_below (v := v) hb hbs)
  have HEV := Lib.hid hE
  have FO := fun W (h : Below base w W) => formOf_any op W (hE.2 W h)
  unfold FormRet at FO
  rw [if_pos ho, decide_eq_true ho] at FO
  unfold formV at FO
  rw [fKey_eq ho] at FO
  have AA := fun W v' l' (h1 : WRow W base v' l') (h2 : Below base w W) (h3 : l'.length + 6 * sizeL a + 1 ≤ 1000000) => Lib.hid (addListed_any 6 (fun e he => addExpr_any 6 e he) a (fun e he => validE_form (ha e he)) A1 p1 W base v' l' h1 (hE.1.next h2) (hR.below h2) h3)
  have hsa : sizeL a ≤ 60 := by have := args_size ha; omega
  have HLA := Lib.hid (argsW_len ha)
  have HHD := Lib.hid (headW_len op s)
  have hnp := name_pos hnm
  have hnk := runKind_name hnm
  rw [show nmdB op = true from decide_eq_true hno, show wbB op = false from decide_eq_false hwo] at FO
  replace FO := fun W h => Lib.hid (FO W h)
  subst hop2
  clear hE hR hW ha 
  generalize weB 2 = we at *
  generalize clB 2 = cb at *
  generalize argN 2 = an at *
  have ek : keyT 2 = ⟨#[]⟩ := rfl
  rw [ek] at FO
  clear ek
  go_enter Tryz.func174, Tryz.ntmps174
  go_upto_region 1 with (fail)
  generalize w.alloc (.cells #[.int .i64 2, .string s, .slice A1 a.length p1, .slice A2 bd.length p2, .slice A3 el.length p3] 209) = wa at *
  have FO1 := Lib.hid (FO wa HPa.out.below).out
  have k0 := K0.out 0 _ rfl
  clear FO
  go_wp2_with fail
  (with_reducible refine Calls.mono FO1.out ?_)
  rintro ee w1 ⟨rfl, hb1⟩
  have hs1 := hb1.size
  have G2 := Lib.hid (BxL.new w1 [.int .i64 2, .string ⟨#[]⟩, .bool true, .int .i64 (an : Int), .bool cb, .bool false, .bool we] 282)
  have e2 : w1.alloc (.cells [.int .i64 2, .string ⟨#[]⟩, .bool true, .int .i64 (an : Int), .bool cb, .bool false, .bool we].toArray 282) = w1.alloc (.cells #[.int .i64 2, .string ⟨#[]⟩, .bool true, .int .i64 (an : Int), .bool cb, .bool false, .bool we] 282) := rfl
  rw [e2] at G2
  clear e2
  have hal : Below w1.heap.size w1 (w1.alloc (.cells #[.int .i64 2, .string ⟨#[]⟩, .bool true, .int .i64 (an : Int), .bool cb, .bool false, .bool we] 282)) := (Below.refl _ _).alloc (Nat.le_refl _) _
  have hlg2 : w1.heap.size < (w1.alloc (.cells #[.int .i64 2, .string ⟨#[]⟩, .bool true, .int .i64 (an : Int), .bool cb, .bool false, .bool we] 282)).heap.size := by rw [World.size_alloc]; omega
  have hb12 := hb1.trans (hal.mono hs1)
  have hba : base ≤ wa.heap.size := Nat.le_trans hbs (Nat.le_of_lt hlt)
  have K2 := Lib.hid (K0.out.below hb12 hlt)
  have hlt2 : w.heap.size < (w1.alloc (.cells #[.int .i64 2, .string ⟨#[]⟩, .bool true, .int .i64 (an : Int), .bool cb, .bool false, .bool we] 282)).heap.size := Nat.lt_of_lt_of_le hlt hb12.size
  have HW2 := Lib.hid (HWa.out.below hb12)
  have HP2 := Lib.hid (HPa.out.trans (Put.of_below (v := v) hb12 hba))
  have HG0 := Lib.hid ((HWa.out.below hb1).free (Nat.le_refl w1.heap.size))
  clear FO1 hb1 hal hb12 HWa HPa k0 K0 hlt hb
  go_upto_region 2 with (fail)
  generalize w1.alloc (.cells #[.int .i64 2, .string ⟨#[]⟩, .bool true, .int .i64 (an : Int), .bool cb, .bool false, .bool we] 282) = w2 at *
  have g1 := G2.out 1 _ rfl
  have HF2 := HF0
  have HG2 := HG0
  clear HF0 HG0
  have k1 := K2.out 1 _ rfl
  have g2 := G2.out 2 _ rfl
  have AS2 := Lib.hid (addText_two base v l s ⟨#[61]⟩ 1 3 w2 HW2.out (HEV.out.1.next HP2.out.below) hnp (by decide) hnk kind_eq (by (try simp only [List.length_append, List.length_cons, List.length_nil]); omega))
  go_wp2_with fail
  (with_reducible refine Calls.mono AS2.out ?_)
  rintro ee w3 ⟨v3, rfl, hW3, hp3⟩
  have K3 := Lib.hid (K2.out.put hp3 hlt2 HF2.out)
  have G3 := Lib.hid (G2.out.put hp3 hlg2 HG2.out)
  have HF3 := Lib.hid (hp3.ne hlt2 HF2.out)
  have HG3 := Lib.hid (hp3.ne hlg2 HG2.out)
  have hlt3 := Nat.lt_of_lt_of_le hlt2 hp3.below.size
  have hlg3 := Nat.lt_of_lt_of_le hlg2 hp3.below.size
  have HP3 := Lib.hid (HP2.out.trans hp3)
  have HW3 := Lib.hid hW3
  clear hp3 hW3 AS2 K2 G2 HF2 HG2 hlt2 hlg2 HP2 HW2 k1 g2 g1
  have k2 := K3.out 2 _ rfl
  have AS3 := Lib.hid (AA w3 v3 _ HW3.out HP3.out.below (by (try simp only [List.length_append, List.length_cons, List.length_nil]); omega)).out
  go_wp2_with fail
  (with_reducible refine Calls.mono AS3.out ?_)
  rintro ee w4 ⟨v4, rfl, hW4, hp4⟩
  have K4 := Lib.hid (K3.out.put hp4 hlt3 HF3.out)
  have G4 := Lib.hid (G3.out.put hp4 hlg3 HG3.out)
  have HF4 := Lib.hid (hp4.ne hlt3 HF3.out)
  have HG4 := Lib.hid (hp4.ne hlg3 HG3.out)
  have hlt4 := Nat.lt_of_lt_of_le hlt3 hp4.below.size
  have hlg4 := Nat.lt_of_lt_of_le hlg3 hp4.below.size
  have HP4 := Lib.hid (HP3.out.trans hp4)
  have HW4 := Lib.hid hW4
  clear hp4 hW4 AS3 K3 G3 HF3 HG3 hlt3 hlg3 HP3 HW3 AA k2 
  have g5 := G4.out 5 _ rfl
  have AS4 := Lib.hid (addText_one base v4 _ ⟨#[59]⟩ 3 w4 HW4.out (HEV.out.1.next HP4.out.below) (by decide) kind_sc (by have h1 := HLA.out; unfold argsW at h1; (try simp only [List.length_append, List.length_cons, List.length_nil]); omega))
  go_wp2_with fail
  (with_reducible refine Calls.mono AS4.out ?_)
  rintro ee w5 ⟨v5, rfl, hW5, hp5⟩
  have K5 := Lib.hid (K4.out.put hp5 hlt4 HF4.out)
  have G5 := Lib.hid (G4.out.put hp5 hlg4 HG4.out)
  have HF5 := Lib.hid (hp5.ne hlt4 HF4.out)
  have HG5 := Lib.hid (hp5.ne hlg4 HG4.out)
  have hlt5 := Nat.lt_of_lt_of_le hlt4 hp5.below.size
  have hlg5 := Nat.lt_of_lt_of_le hlg4 hp5.below.size
  have HP5 := Lib.hid (HP4.out.trans hp5)
  have HW5 := Lib.hid hW5
  clear hp5 hW5 AS4 K4 G4 HF4 HG4 hlt4 hlg4 HP4 HW4 g5
  go_wp2_with fail
  go_ret
  exact ⟨_, rfl, by rw [HWT.out]; exact HW5.out, HP5.out⟩
set_option maxHeartbeats 4000000 in
theorem addStmt_plain (op : Int) (ho : 1 ≤ op ∧ op ≤ 8) (s : ByteArray) (a : List E) (ha : ∀ e ∈ a, validE e = true) (ha2 : a.length ≤ 2) (bd el : List St) (A1 A2 A3 : Option Addr) (p1 p2 p3 : Nat) (w : World) (base : Nat) (v : Value) (l : List W)
    (hW : WRow w base v l) (hE : EnvF base w) (hR : RdS w base a A1) (hl : l.length + 400 ≤ 900000) (hk2 : op ≠ 2) (hno : ¬ (op = 1 ∨ op = 2)) (hwo : ¬ (op = 5 ∨ op = 6)) :
    Calls Tryz.prog 174 #[v, .agg #[.int .i64 op, .string s, .slice A1 a.length p1, .slice A2 bd.length p2, .slice A3 el.length p3]] w (AddRet base v (l ++ ([(4, keyT op)] ++ (argsW a ++ [(3, scS)]))) w) := by
  have HWT := Lib.hid (show l ++ ([(4, keyT op)] ++ (argsW a ++ [(3, scS)])) = ((l ++ [(4, keyT op)]) ++ argsW a) ++ [(3, scS)] by simp only [List.append_assoc])
  generalize hgoal : l ++ ([(4, keyT op)] ++ (argsW a ++ [(3, scS)])) = lw at *
  clear hgoal
  have hbs := hE.1.1
  have K0 := Lib.hid (BxL.new w [.int .i64 op, .string s, .slice A1 a.length p1, .slice A2 bd.length p2, .slice A3 el.length p3] 209)
  have hlt : w.heap.size < (w.alloc (.cells #[.int .i64 op, .string s, .slice A1 a.length p1, .slice A2 bd.length p2, .slice A3 el.length p3] 209)).heap.size := by rw [World.size_alloc]; omega
  have hb : Below w.heap.size w (w.alloc (.cells #[.int .i64 op, .string s, .slice A1 a.length p1, .slice A2 bd.length p2, .slice A3 el.length p3] 209)) := (Below.refl _ _).alloc (Nat.le_refl _) _
  have e0 : w.alloc (.cells [.int .i64 op, .string s, .slice A1 a.length p1, .slice A2 bd.length p2, .slice A3 el.length p3].toArray 209) = w.alloc (.cells #[.int .i64 op, .string s, .slice A1 a.length p1, .slice A2 bd.length p2, .slice A3 el.length p3] 209) := rfl
  rw [e0] at K0
  clear e0
  have HF0 := Lib.hid (hW.free (Nat.le_refl w.heap.size))
  have HWa := Lib.hid (hW.below hb)
  have HPa := Lib.hid (Put.of_below (v := v) hb hbs)
  have HEV := Lib.hid hE
  have FO := fun W (h : Below base w W) => formOf_any op W (hE.2 W h)
  unfold FormRet at FO
  rw [if_pos ho, decide_eq_true ho] at FO
  unfold formV at FO
  rw [fKey_eq ho] at FO
  have AA := fun W v' l' (h1 : WRow W base v' l') (h2 : Below base w W) (h3 : l'.length + 6 * sizeL a + 1 ≤ 1000000) => Lib.hid (addListed_any 6 (fun e he => addExpr_any 6 e he) a (fun e he => validE_form (ha e he)) A1 p1 W base v' l' h1 (hE.1.next h2) (hR.below h2) h3)
  have hsa : sizeL a ≤ 60 := by have := args_size ha; omega
  have HLA := Lib.hid (argsW_len ha)
  have HHD := Lib.hid (headW_len op s)
  have hk1 := key_pos ho hk2
  have hkk := key_kind (key_of ho hk2)
  have hke := full_str (s := keyT op) (fun h => by rw [h] at hk1; exact absurd hk1 (by decide))
  rw [show nmdB op = false from decide_eq_false hno, show wbB op = false from decide_eq_false hwo] at FO
  replace FO := fun W h => Lib.hid (FO W h)
  generalize keyT op = K at *
  clear hE hR hW ha hk2
  generalize weB op = we at *
  generalize clB op = cb at *
  generalize argN op = an at *
  go_enter Tryz.func174, Tryz.ntmps174
  go_upto_region 1 with (fail)
  generalize w.alloc (.cells #[.int .i64 op, .string s, .slice A1 a.length p1, .slice A2 bd.length p2, .slice A3 el.length p3] 209) = wa at *
  have FO1 := Lib.hid (FO wa HPa.out.below).out
  have k0 := K0.out 0 _ rfl
  clear FO
  go_wp2_with fail
  (with_reducible refine Calls.mono FO1.out ?_)
  rintro ee w1 ⟨rfl, hb1⟩
  have hs1 := hb1.size
  have G2 := Lib.hid (BxL.new w1 [.int .i64 op, .string K, .bool false, .int .i64 (an : Int), .bool cb, .bool false, .bool we] 282)
  have e2 : w1.alloc (.cells [.int .i64 op, .string K, .bool false, .int .i64 (an : Int), .bool cb, .bool false, .bool we].toArray 282) = w1.alloc (.cells #[.int .i64 op, .string K, .bool false, .int .i64 (an : Int), .bool cb, .bool false, .bool we] 282) := rfl
  rw [e2] at G2
  clear e2
  have hal : Below w1.heap.size w1 (w1.alloc (.cells #[.int .i64 op, .string K, .bool false, .int .i64 (an : Int), .bool cb, .bool false, .bool we] 282)) := (Below.refl _ _).alloc (Nat.le_refl _) _
  have hlg2 : w1.heap.size < (w1.alloc (.cells #[.int .i64 op, .string K, .bool false, .int .i64 (an : Int), .bool cb, .bool false, .bool we] 282)).heap.size := by rw [World.size_alloc]; omega
  have hb12 := hb1.trans (hal.mono hs1)
  have hba : base ≤ wa.heap.size := Nat.le_trans hbs (Nat.le_of_lt hlt)
  have K2 := Lib.hid (K0.out.below hb12 hlt)
  have hlt2 : w.heap.size < (w1.alloc (.cells #[.int .i64 op, .string K, .bool false, .int .i64 (an : Int), .bool cb, .bool false, .bool we] 282)).heap.size := Nat.lt_of_lt_of_le hlt hb12.size
  have HW2 := Lib.hid (HWa.out.below hb12)
  have HP2 := Lib.hid (HPa.out.trans (Put.of_below (v := v) hb12 hba))
  have HG0 := Lib.hid ((HWa.out.below hb1).free (Nat.le_refl w1.heap.size))
  clear FO1 hb1 hal hb12 HWa HPa k0 K0 hlt hb
  go_upto_region 2 with (fail)
  generalize w1.alloc (.cells #[.int .i64 op, .string K, .bool false, .int .i64 (an : Int), .bool cb, .bool false, .bool we] 282) = w2 at *
  have g1 := G2.out 1 _ rfl
  have HF2 := HF0
  have HG2 := HG0
  clear HF0 HG0
  have AS2 := Lib.hid (addText_one base v l K 4 w2 HW2.out (HEV.out.1.next HP2.out.below) hk1 hkk (by omega))
  obtain ⟨hke1, hke2⟩ := hke
  go_wp2_with fail
  (with_reducible refine Calls.mono AS2.out ?_)
  rintro ee w3 ⟨v3, rfl, hW3, hp3⟩
  have K3 := Lib.hid (K2.out.put hp3 hlt2 HF2.out)
  have G3 := Lib.hid (G2.out.put hp3 hlg2 HG2.out)
  have HF3 := Lib.hid (hp3.ne hlt2 HF2.out)
  have HG3 := Lib.hid (hp3.ne hlg2 HG2.out)
  have hlt3 := Nat.lt_of_lt_of_le hlt2 hp3.below.size
  have hlg3 := Nat.lt_of_lt_of_le hlg2 hp3.below.size
  have HP3 := Lib.hid (HP2.out.trans hp3)
  have HW3 := Lib.hid hW3
  clear hp3 hW3 AS2 K2 G2 HF2 HG2 hlt2 hlg2 HP2 HW2 g1 hke1 hke2
  have g2 := G3.out 2 _ rfl
  have k2 := K3.out 2 _ rfl
  have AS3 := Lib.hid (AA w3 v3 _ HW3.out HP3.out.below (by (try simp only [List.length_append, List.length_cons, List.length_nil]); omega)).out
  go_wp2_with fail
  (with_reducible refine Calls.mono AS3.out ?_)
  rintro ee w4 ⟨v4, rfl, hW4, hp4⟩
  have K4 := Lib.hid (K3.out.put hp4 hlt3 HF3.out)
  have G4 := Lib.hid (G3.out.put hp4 hlg3 HG3.out)
  have HF4 := Lib.hid (hp4.ne hlt3 HF3.out)
  have HG4 := Lib.hid (hp4.ne hlg3 HG3.out)
  have hlt4 := Nat.lt_of_lt_of_le hlt3 hp4.below.size
  have hlg4 := Nat.lt_of_lt_of_le hlg3 hp4.below.size
  have HP4 := Lib.hid (HP3.out.trans hp4)
  have HW4 := Lib.hid hW4
  clear hp4 hW4 AS3 K3 G3 HF3 HG3 hlt3 hlg3 HP3 HW3 AA k2 g2
  have g5 := G4.out 5 _ rfl
  have AS4 := Lib.hid (addText_one base v4 _ ⟨#[59]⟩ 3 w4 HW4.out (HEV.out.1.next HP4.out.below) (by decide) kind_sc (by have h1 := HLA.out; unfold argsW at h1; (try simp only [List.length_append, List.length_cons, List.length_nil]); omega))
  go_wp2_with fail
  (with_reducible refine Calls.mono AS4.out ?_)
  rintro ee w5 ⟨v5, rfl, hW5, hp5⟩
  have K5 := Lib.hid (K4.out.put hp5 hlt4 HF4.out)
  have G5 := Lib.hid (G4.out.put hp5 hlg4 HG4.out)
  have HF5 := Lib.hid (hp5.ne hlt4 HF4.out)
  have HG5 := Lib.hid (hp5.ne hlg4 HG4.out)
  have hlt5 := Nat.lt_of_lt_of_le hlt4 hp5.below.size
  have hlg5 := Nat.lt_of_lt_of_le hlg4 hp5.below.size
  have HP5 := Lib.hid (HP4.out.trans hp5)
  have HW5 := Lib.hid hW5
  clear hp5 hW5 AS4 K4 G4 HF4 HG4 hlt4 hlg4 HP4 HW4 g5
  go_wp2_with fail
  go_ret
  exact ⟨_, rfl, by rw [HWT.out]; exact HW5.out, HP5.out⟩
set_option maxHeartbeats 4000000 in
theorem addStmt_body (d : Nat) (HB : AddB d) (op : Int) (ho : 1 ≤ op ∧ op ≤ 8) (s : ByteArray) (a : List E) (ha : ∀ e ∈ a, validE e = true) (ha2 : a.length ≤ 2) (bd el : List St) (A1 A2 A3 : Option Addr) (p1 p2 p3 : Nat) (w : World) (base : Nat) (v : Value) (l : List W)
    (hW : WRow w base v l) (hE : EnvF base w) (hR : RdS w base a A1) (hl : l.length + 400 * (1 + sizeTL bd + sizeTL el) ≤ 900000) (hbd : ∀ t ∈ bd, formT d t = true) (hS : StS w (Lt base) bd A2) (hel : el = []) (hk2 : op ≠ 2) (hno : ¬ (op = 1 ∨ op = 2)) (hwo : op = 5 ∨ op = 6) :
    Calls Tryz.prog 174 #[v, .agg #[.int .i64 op, .string s, .slice A1 a.length p1, .slice A2 bd.length p2, .slice A3 el.length p3]] w (AddRet base v (l ++ ([(4, keyT op)] ++ (argsW a ++ blkW bd))) w) := by
  have HWT := Lib.hid (show l ++ ([(4, keyT op)] ++ (argsW a ++ blkW bd)) = ((l ++ [(4, keyT op)]) ++ argsW a) ++ blkW bd by simp only [List.append_assoc])
  generalize hgoal : l ++ ([(4, keyT op)] ++ (argsW a ++ blkW bd)) = lw at *
  clear hgoal
  have hbs := hE.1.1
  have K0 := Lib.hid (BxL.new w [.int .i64 op, .string s, .slice A1 a.length p1, .slice A2 bd.length p2, .slice A3 el.length p3] 209)
  have hlt : w.heap.size < (w.alloc (.cells #[.int .i64 op, .string s, .slice A1 a.length p1, .slice A2 bd.length p2, .slice A3 el.length p3] 209)).heap.size := by rw [World.size_alloc]; omega
  have hb : Below w.heap.size w (w.alloc (.cells #[.int .i64 op, .string s, .slice A1 a.length p1, .slice A2 bd.length p2, .slice A3 el.length p3] 209)) := (Below.refl _ _).alloc (Nat.le_refl _) _
  have e0 : w.alloc (.cells [.int .i64 op, .string s, .slice A1 a.length p1, .slice A2 bd.length p2, .slice A3 el.length p3].toArray 209) = w.alloc (.cells #[.int .i64 op, .string s, .slice A1 a.length p1, .slice A2 bd.length p2, .slice A3 el.length p3] 209) := rfl
  rw [e0] at K0
  clear e0
  have HF0 := Lib.hid (hW.free (Nat.le_refl w.heap.size))
  have HWa := Lib.hid (hW.below hb)
  have HPa := Lib.hid (Put.of_below (v := v) hb hbs)
  have HEV := Lib.hid hE
  have FO := fun W (h : Below base w W) => formOf_any op W (hE.2 W h)
  unfold FormRet at FO
  rw [if_pos ho, decide_eq_true ho] at FO
  unfold formV at FO
  rw [fKey_eq ho] at FO
  have AA := fun W v' l' (h1 : WRow W base v' l') (h2 : Below base w W) (h3 : l'.length + 6 * sizeL a + 1 ≤ 1000000) => Lib.hid (addListed_any 6 (fun e he => addExpr_any 6 e he) a (fun e he => validE_form (ha e he)) A1 p1 W base v' l' h1 (hE.1.next h2) (hR.below h2) h3)
  have hsa : sizeL a ≤ 60 := by have := args_size ha; omega
  have HLA := Lib.hid (argsW_len ha)
  have HHD := Lib.hid (headW_len op s)
  have BB := fun X v' l' (h1 : WRow X base v' l') (h2 : Below base w X) (h3 : l'.length + 400 * sizeTL bd + 2 ≤ 900000) => Lib.hid (HB bd hbd A2 p2 X base v' l' h1 (hE.next h2) (hS.on h2 (Nat.le_refl _)) h3)
  have HLB := Lib.hid (show (blkW bd).length ≤ 400 * sizeTL bd + 2 by rw [blkW_len]; have := wTL_len hbd; omega)
  clear hS hbd
  have hpe : ¬ (0 : Int) < el.length := by rw [hel]; decide
  clear hel HB
  have hk1 := key_pos ho hk2
  have hkk := key_kind (key_of ho hk2)
  have hke := full_str (s := keyT op) (fun h => by rw [h] at hk1; exact absurd hk1 (by decide))
  rw [show nmdB op = false from decide_eq_false hno, show wbB op = true from decide_eq_true hwo] at FO
  replace FO := fun W h => Lib.hid (FO W h)
  generalize keyT op = K at *
  clear hE hR hW ha hk2
  generalize weB op = we at *
  generalize clB op = cb at *
  generalize argN op = an at *
  go_enter Tryz.func174, Tryz.ntmps174
  go_upto_region 1 with (fail)
  generalize w.alloc (.cells #[.int .i64 op, .string s, .slice A1 a.length p1, .slice A2 bd.length p2, .slice A3 el.length p3] 209) = wa at *
  have FO1 := Lib.hid (FO wa HPa.out.below).out
  have k0 := K0.out 0 _ rfl
  clear FO
  go_wp2_with fail
  (with_reducible refine Calls.mono FO1.out ?_)
  rintro ee w1 ⟨rfl, hb1⟩
  have hs1 := hb1.size
  have G2 := Lib.hid (BxL.new w1 [.int .i64 op, .string K, .bool false, .int .i64 (an : Int), .bool cb, .bool true, .bool we] 282)
  have e2 : w1.alloc (.cells [.int .i64 op, .string K, .bool false, .int .i64 (an : Int), .bool cb, .bool true, .bool we].toArray 282) = w1.alloc (.cells #[.int .i64 op, .string K, .bool false, .int .i64 (an : Int), .bool cb, .bool true, .bool we] 282) := rfl
  rw [e2] at G2
  clear e2
  have hal : Below w1.heap.size w1 (w1.alloc (.cells #[.int .i64 op, .string K, .bool false, .int .i64 (an : Int), .bool cb, .bool true, .bool we] 282)) := (Below.refl _ _).alloc (Nat.le_refl _) _
  have hlg2 : w1.heap.size < (w1.alloc (.cells #[.int .i64 op, .string K, .bool false, .int .i64 (an : Int), .bool cb, .bool true, .bool we] 282)).heap.size := by rw [World.size_alloc]; omega
  have hb12 := hb1.trans (hal.mono hs1)
  have hba : base ≤ wa.heap.size := Nat.le_trans hbs (Nat.le_of_lt hlt)
  have K2 := Lib.hid (K0.out.below hb12 hlt)
  have hlt2 : w.heap.size < (w1.alloc (.cells #[.int .i64 op, .string K, .bool false, .int .i64 (an : Int), .bool cb, .bool true, .bool we] 282)).heap.size := Nat.lt_of_lt_of_le hlt hb12.size
  have HW2 := Lib.hid (HWa.out.below hb12)
  have HP2 := Lib.hid (HPa.out.trans (Put.of_below (v := v) hb12 hba))
  have HG0 := Lib.hid ((HWa.out.below hb1).free (Nat.le_refl w1.heap.size))
  clear FO1 hb1 hal hb12 HWa HPa k0 K0 hlt hb
  go_upto_region 2 with (fail)
  generalize w1.alloc (.cells #[.int .i64 op, .string K, .bool false, .int .i64 (an : Int), .bool cb, .bool true, .bool we] 282) = w2 at *
  have g1 := G2.out 1 _ rfl
  have HF2 := HF0
  have HG2 := HG0
  clear HF0 HG0
  have AS2 := Lib.hid (addText_one base v l K 4 w2 HW2.out (HEV.out.1.next HP2.out.below) hk1 hkk (by omega))
  obtain ⟨hke1, hke2⟩ := hke
  go_wp2_with fail
  (with_reducible refine Calls.mono AS2.out ?_)
  rintro ee w3 ⟨v3, rfl, hW3, hp3⟩
  have K3 := Lib.hid (K2.out.put hp3 hlt2 HF2.out)
  have G3 := Lib.hid (G2.out.put hp3 hlg2 HG2.out)
  have HF3 := Lib.hid (hp3.ne hlt2 HF2.out)
  have HG3 := Lib.hid (hp3.ne hlg2 HG2.out)
  have hlt3 := Nat.lt_of_lt_of_le hlt2 hp3.below.size
  have hlg3 := Nat.lt_of_lt_of_le hlg2 hp3.below.size
  have HP3 := Lib.hid (HP2.out.trans hp3)
  have HW3 := Lib.hid hW3
  clear hp3 hW3 AS2 K2 G2 HF2 HG2 hlt2 hlg2 HP2 HW2 g1 hke1 hke2
  have g2 := G3.out 2 _ rfl
  have k2 := K3.out 2 _ rfl
  have AS3 := Lib.hid (AA w3 v3 _ HW3.out HP3.out.below (by (try simp only [List.length_append, List.length_cons, List.length_nil]); omega)).out
  go_wp2_with fail
  (with_reducible refine Calls.mono AS3.out ?_)
  rintro ee w4 ⟨v4, rfl, hW4, hp4⟩
  have K4 := Lib.hid (K3.out.put hp4 hlt3 HF3.out)
  have G4 := Lib.hid (G3.out.put hp4 hlg3 HG3.out)
  have HF4 := Lib.hid (hp4.ne hlt3 HF3.out)
  have HG4 := Lib.hid (hp4.ne hlg3 HG3.out)
  have hlt4 := Nat.lt_of_lt_of_le hlt3 hp4.below.size
  have hlg4 := Nat.lt_of_lt_of_le hlg3 hp4.below.size
  have HP4 := Lib.hid (HP3.out.trans hp4)
  have HW4 := Lib.hid hW4
  clear hp4 hW4 AS3 K3 G3 HF3 HG3 hlt3 hlg3 HP3 HW3 AA k2 g2
  have g5 := G4.out 5 _ rfl
  have k3 := K4.out 3 _ rfl
  have AS4 := Lib.hid (BB w4 v4 _ HW4.out HP4.out.below (by have h1 := HLA.out; unfold argsW at h1; (try simp only [List.length_append, List.length_cons, List.length_nil]); omega)).out
  go_wp2_with fail
  (with_reducible refine Calls.mono AS4.out ?_)
  rintro ee w5 ⟨v5, rfl, hW5, hp5⟩
  have K5 := Lib.hid (K4.out.put hp5 hlt4 HF4.out)
  have G5 := Lib.hid (G4.out.put hp5 hlg4 HG4.out)
  have HF5 := Lib.hid (hp5.ne hlt4 HF4.out)
  have HG5 := Lib.hid (hp5.ne hlg4 HG4.out)
  have hlt5 := Nat.lt_of_lt_of_le hlt4 hp5.below.size
  have hlg5 := Nat.lt_of_lt_of_le hlg4 hp5.below.size
  have HP5 := Lib.hid (HP4.out.trans hp5)
  have HW5 := Lib.hid hW5
  clear hp5 hW5 AS4 K4 G4 HF4 HG4 hlt4 hlg4 HP4 HW4 BB g5 k3
  have k4 := K5.out 4 _ rfl
  go_wp2_with fail
  go_ret
  exact ⟨_, rfl, by rw [HWT.out]; exact HW5.out, HP5.out⟩
set_option maxHeartbeats 4000000 in
theorem addStmt_else (d : Nat) (HB : AddB d) (op : Int) (ho : 1 ≤ op ∧ op ≤ 8) (s : ByteArray) (a : List E) (ha : ∀ e ∈ a, validE e = true) (ha2 : a.length ≤ 2) (bd el : List St) (A1 A2 A3 : Option Addr) (p1 p2 p3 : Nat) (w : World) (base : Nat) (v : Value) (l : List W)
    (hW : WRow w base v l) (hE : EnvF base w) (hR : RdS w base a A1) (hl : l.length + 400 * (1 + sizeTL bd + sizeTL el) ≤ 900000) (hbd : ∀ t ∈ bd, formT d t = true) (hS : StS w (Lt base) bd A2) (hed : ∀ t ∈ el, formT d t = true) (hS' : StS w (Lt base) el A3) (hel : el ≠ []) (hk2 : op ≠ 2) (hno : ¬ (op = 1 ∨ op = 2)) (hwo : op = 5 ∨ op = 6) :
    Calls Tryz.prog 174 #[v, .agg #[.int .i64 op, .string s, .slice A1 a.length p1, .slice A2 bd.length p2, .slice A3 el.length p3]] w (AddRet base v (l ++ ([(4, keyT op)] ++ (argsW a ++ (blkW bd ++ (4, elseS) :: blkW el)))) w) := by
  have HWT := Lib.hid (show l ++ ([(4, keyT op)] ++ (argsW a ++ (blkW bd ++ (4, elseS) :: blkW el))) = ((((l ++ [(4, keyT op)]) ++ argsW a) ++ blkW bd) ++ [(4, elseS)]) ++ blkW el by simp)
  generalize hgoal : l ++ ([(4, keyT op)] ++ (argsW a ++ (blkW bd ++ (4, elseS) :: blkW el))) = lw at *
  clear hgoal
  have hbs := hE.1.1
  have K0 := Lib.hid (BxL.new w [.int .i64 op, .string s, .slice A1 a.length p1, .slice A2 bd.length p2, .slice A3 el.length p3] 209)
  have hlt : w.heap.size < (w.alloc (.cells #[.int .i64 op, .string s, .slice A1 a.length p1, .slice A2 bd.length p2, .slice A3 el.length p3] 209)).heap.size := by rw [World.size_alloc]; omega
  have hb : Below w.heap.size w (w.alloc (.cells #[.int .i64 op, .string s, .slice A1 a.length p1, .slice A2 bd.length p2, .slice A3 el.length p3] 209)) := (Below.refl _ _).alloc (Nat.le_refl _) _
  have e0 : w.alloc (.cells [.int .i64 op, .string s, .slice A1 a.length p1, .slice A2 bd.length p2, .slice A3 el.length p3].toArray 209) = w.alloc (.cells #[.int .i64 op, .string s, .slice A1 a.length p1, .slice A2 bd.length p2, .slice A3 el.length p3] 209) := rfl
  rw [e0] at K0
  clear e0
  have HF0 := Lib.hid (hW.free (Nat.le_refl w.heap.size))
  have HWa := Lib.hid (hW.below hb)
  have HPa := Lib.hid (Put.of_below (v := v) hb hbs)
  have HEV := Lib.hid hE
  have FO := fun W (h : Below base w W) => formOf_any op W (hE.2 W h)
  unfold FormRet at FO
  rw [if_pos ho, decide_eq_true ho] at FO
  unfold formV at FO
  rw [fKey_eq ho] at FO
  have AA := fun W v' l' (h1 : WRow W base v' l') (h2 : Below base w W) (h3 : l'.length + 6 * sizeL a + 1 ≤ 1000000) => Lib.hid (addListed_any 6 (fun e he => addExpr_any 6 e he) a (fun e he => validE_form (ha e he)) A1 p1 W base v' l' h1 (hE.1.next h2) (hR.below h2) h3)
  have hsa : sizeL a ≤ 60 := by have := args_size ha; omega
  have HLA := Lib.hid (argsW_len ha)
  have HHD := Lib.hid (headW_len op s)
  have BB := fun X v' l' (h1 : WRow X base v' l') (h2 : Below base w X) (h3 : l'.length + 400 * sizeTL bd + 2 ≤ 900000) => Lib.hid (HB bd hbd A2 p2 X base v' l' h1 (hE.next h2) (hS.on h2 (Nat.le_refl _)) h3)
  have HLB := Lib.hid (show (blkW bd).length ≤ 400 * sizeTL bd + 2 by rw [blkW_len]; have := wTL_len hbd; omega)
  clear hS hbd
  have EB := fun X v' l' (h1 : WRow X base v' l') (h2 : Below base w X) (h3 : l'.length + 400 * sizeTL el + 2 ≤ 900000) => Lib.hid (HB el hed A3 p3 X base v' l' h1 (hE.next h2) (hS'.on h2 (Nat.le_refl _)) h3)
  have hpe : (0 : Int) < el.length := by have := List.length_pos_iff.2 hel; omega
  clear hS' hed hel HB
  have hk1 := key_pos ho hk2
  have hkk := key_kind (key_of ho hk2)
  have hke := full_str (s := keyT op) (fun h => by rw [h] at hk1; exact absurd hk1 (by decide))
  rw [show nmdB op = false from decide_eq_false hno, show wbB op = true from decide_eq_true hwo] at FO
  replace FO := fun W h => Lib.hid (FO W h)
  generalize keyT op = K at *
  clear hE hR hW ha hk2
  generalize weB op = we at *
  generalize clB op = cb at *
  generalize argN op = an at *
  go_enter Tryz.func174, Tryz.ntmps174
  go_upto_region 1 with (fail)
  generalize w.alloc (.cells #[.int .i64 op, .string s, .slice A1 a.length p1, .slice A2 bd.length p2, .slice A3 el.length p3] 209) = wa at *
  have FO1 := Lib.hid (FO wa HPa.out.below).out
  have k0 := K0.out 0 _ rfl
  clear FO
  go_wp2_with fail
  (with_reducible refine Calls.mono FO1.out ?_)
  rintro ee w1 ⟨rfl, hb1⟩
  have hs1 := hb1.size
  have G2 := Lib.hid (BxL.new w1 [.int .i64 op, .string K, .bool false, .int .i64 (an : Int), .bool cb, .bool true, .bool we] 282)
  have e2 : w1.alloc (.cells [.int .i64 op, .string K, .bool false, .int .i64 (an : Int), .bool cb, .bool true, .bool we].toArray 282) = w1.alloc (.cells #[.int .i64 op, .string K, .bool false, .int .i64 (an : Int), .bool cb, .bool true, .bool we] 282) := rfl
  rw [e2] at G2
  clear e2
  have hal : Below w1.heap.size w1 (w1.alloc (.cells #[.int .i64 op, .string K, .bool false, .int .i64 (an : Int), .bool cb, .bool true, .bool we] 282)) := (Below.refl _ _).alloc (Nat.le_refl _) _
  have hlg2 : w1.heap.size < (w1.alloc (.cells #[.int .i64 op, .string K, .bool false, .int .i64 (an : Int), .bool cb, .bool true, .bool we] 282)).heap.size := by rw [World.size_alloc]; omega
  have hb12 := hb1.trans (hal.mono hs1)
  have hba : base ≤ wa.heap.size := Nat.le_trans hbs (Nat.le_of_lt hlt)
  have K2 := Lib.hid (K0.out.below hb12 hlt)
  have hlt2 : w.heap.size < (w1.alloc (.cells #[.int .i64 op, .string K, .bool false, .int .i64 (an : Int), .bool cb, .bool true, .bool we] 282)).heap.size := Nat.lt_of_lt_of_le hlt hb12.size
  have HW2 := Lib.hid (HWa.out.below hb12)
  have HP2 := Lib.hid (HPa.out.trans (Put.of_below (v := v) hb12 hba))
  have HG0 := Lib.hid ((HWa.out.below hb1).free (Nat.le_refl w1.heap.size))
  clear FO1 hb1 hal hb12 HWa HPa k0 K0 hlt hb
  go_upto_region 2 with (fail)
  generalize w1.alloc (.cells #[.int .i64 op, .string K, .bool false, .int .i64 (an : Int), .bool cb, .bool true, .bool we] 282) = w2 at *
  have g1 := G2.out 1 _ rfl
  have HF2 := HF0
  have HG2 := HG0
  clear HF0 HG0
  have AS2 := Lib.hid (addText_one base v l K 4 w2 HW2.out (HEV.out.1.next HP2.out.below) hk1 hkk (by omega))
  obtain ⟨hke1, hke2⟩ := hke
  go_wp2_with fail
  (with_reducible refine Calls.mono AS2.out ?_)
  rintro ee w3 ⟨v3, rfl, hW3, hp3⟩
  have K3 := Lib.hid (K2.out.put hp3 hlt2 HF2.out)
  have G3 := Lib.hid (G2.out.put hp3 hlg2 HG2.out)
  have HF3 := Lib.hid (hp3.ne hlt2 HF2.out)
  have HG3 := Lib.hid (hp3.ne hlg2 HG2.out)
  have hlt3 := Nat.lt_of_lt_of_le hlt2 hp3.below.size
  have hlg3 := Nat.lt_of_lt_of_le hlg2 hp3.below.size
  have HP3 := Lib.hid (HP2.out.trans hp3)
  have HW3 := Lib.hid hW3
  clear hp3 hW3 AS2 K2 G2 HF2 HG2 hlt2 hlg2 HP2 HW2 g1 hke1 hke2
  have g2 := G3.out 2 _ rfl
  have k2 := K3.out 2 _ rfl
  have AS3 := Lib.hid (AA w3 v3 _ HW3.out HP3.out.below (by (try simp only [List.length_append, List.length_cons, List.length_nil]); omega)).out
  go_wp2_with fail
  (with_reducible refine Calls.mono AS3.out ?_)
  rintro ee w4 ⟨v4, rfl, hW4, hp4⟩
  have K4 := Lib.hid (K3.out.put hp4 hlt3 HF3.out)
  have G4 := Lib.hid (G3.out.put hp4 hlg3 HG3.out)
  have HF4 := Lib.hid (hp4.ne hlt3 HF3.out)
  have HG4 := Lib.hid (hp4.ne hlg3 HG3.out)
  have hlt4 := Nat.lt_of_lt_of_le hlt3 hp4.below.size
  have hlg4 := Nat.lt_of_lt_of_le hlg3 hp4.below.size
  have HP4 := Lib.hid (HP3.out.trans hp4)
  have HW4 := Lib.hid hW4
  clear hp4 hW4 AS3 K3 G3 HF3 HG3 hlt3 hlg3 HP3 HW3 AA k2 g2
  have g5 := G4.out 5 _ rfl
  have k3 := K4.out 3 _ rfl
  have AS4 := Lib.hid (BB w4 v4 _ HW4.out HP4.out.below (by have h1 := HLA.out; unfold argsW at h1; (try simp only [List.length_append, List.length_cons, List.length_nil]); omega)).out
  go_wp2_with fail
  (with_reducible refine Calls.mono AS4.out ?_)
  rintro ee w5 ⟨v5, rfl, hW5, hp5⟩
  have K5 := Lib.hid (K4.out.put hp5 hlt4 HF4.out)
  have G5 := Lib.hid (G4.out.put hp5 hlg4 HG4.out)
  have HF5 := Lib.hid (hp5.ne hlt4 HF4.out)
  have HG5 := Lib.hid (hp5.ne hlg4 HG4.out)
  have hlt5 := Nat.lt_of_lt_of_le hlt4 hp5.below.size
  have hlg5 := Nat.lt_of_lt_of_le hlg4 hp5.below.size
  have HP5 := Lib.hid (HP4.out.trans hp5)
  have HW5 := Lib.hid hW5
  clear hp5 hW5 AS4 K4 G4 HF4 HG4 hlt4 hlg4 HP4 HW4 BB g5 k3
  have k4 := K5.out 4 _ rfl
  have hbz : base ≤ w5.heap.size := Nat.le_trans hbs (HP5.out.below.mono (Nat.le_refl _)).size
  have hEx : Env base w5.drew := HEV.out.1.next HP5.out.below.drew
  have hlen : ((l ++ [(4, K)] ++ argsW a) ++ blkW bd).length + 1 + 400 * sizeTL el + 2 ≤ 900000 := by have h1 := HLA.out; have h2 := HLB.out; simp only [List.length_append, List.length_cons, List.length_nil]; omega
  have AE := Lib.hid (show Calls Tryz.prog 97 #[v5, .slice (some ⟨w5.heap.size, 0, none⟩) 1 1] (w5.alloc (.cells #[.string ⟨#[101, 108, 115, 101]⟩] 9)).drew (AddRet base v5 ((l ++ [(4, K)] ++ argsW a) ++ blkW bd ++ [(4, elseS)]) w5.drew) from addText_one base v5 _ elseS 4 w5.drew HW5.out hEx (by decide) kind_else (by omega))
  have x4 : (w5.alloc (.cells #[.string ⟨#[101, 108, 115, 101]⟩] 9)).cell? ⟨w.heap.size, 4, none⟩ = some (.slice A3 el.length p3) := (((Below.refl w5.heap.size w5).alloc (Nat.le_refl _) (.cells #[.string ⟨#[101, 108, 115, 101]⟩] 9)).cell (p := ⟨w.heap.size, 4, none⟩) hlt5).trans k4
  have HKX := Lib.hid (show ∀ w' v', Put base v5 v' w5.drew w' → w'.cell? ⟨w.heap.size, 4, none⟩ = some (.slice A3 el.length p3) from fun w' v' hp => (hp.cell (k := w.heap.size) (o := 4) hlt5 HF5.out).trans k4)
  have EX := fun w1 v1 (h0 : WRow w1 base v1 ((l ++ [(4, K)] ++ argsW a) ++ blkW bd ++ [(4, elseS)])) (h1 : Below base w w1) => Lib.hid (EB w1 v1 _ h0 h1 (by rw [List.length_append]; show _ + 1 + _ + 2 ≤ _; omega)).out
  have HBD := Lib.hid (show Below base w w5.drew from HP5.out.below.drew)
  clear hEx EB HEV
  go_wp2_with fail
  go_region_with (first
    | (go_at_call 97; (with_reducible refine Calls.mono AE.out ?_); rintro ee wb ⟨vb, rfl, hWb, hpb⟩; have m4 := HKX.out _ _ hpb)
    | (go_at_call 125; (with_reducible refine Calls.mono (EX wb vb hWb (HBD.out.trans hpb.below)).out ?_); rintro ee wc ⟨vc, rfl, hWc, hpc⟩; have HWC := Lib.hid hWc; have HQ := Lib.hid (hpb.trans hpc)))
  all_goals
    clear hWc hpc hWb hpb
    go_wp2_with fail
    go_ret
    exact ⟨_, rfl, by rw [HWT.out]; exact HWC.out, (HP5.out.trans (Put.of_below (Below.refl _ _).drew hbz)).trans HQ.out⟩
end Go.Proofs.YtljdbjfbcjigaaaGreatDoor
