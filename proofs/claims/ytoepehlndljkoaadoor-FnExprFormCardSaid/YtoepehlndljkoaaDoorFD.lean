/-
  Words put behind a list by the program: expressions of all forms.
-/
import Derived.Test.YtoepehlndljkoaaDoorFC
namespace Go.Proofs.YtoepehlndljkoaaDoor
open Go.RowKit Go.Maps
set_option maxRecDepth 100000

theorem ta_number_number (w : World) : (Instr.typeAssert (.iface 61 (.agg #[])) 58 61 true).run Tryd.prog w = .ok (.tuple #[.agg #[], .bool true]) w := by kernel_rfl
theorem ta_variable_number (w : World) : (Instr.typeAssert (.iface 63 (.agg #[])) 58 61 true).run Tryd.prog w = .ok (.tuple #[.agg #[], .bool false]) w := by kernel_rfl
theorem ta_variable_variable (w : World) : (Instr.typeAssert (.iface 63 (.agg #[])) 58 63 true).run Tryd.prog w = .ok (.tuple #[.agg #[], .bool true]) w := by kernel_rfl
theorem ta_between_number (op l : Int) (sg : ByteArray) (w : World) : (Instr.typeAssert (.iface 67 (.agg #[.int .i64 op, .string sg, .int .i64 l])) 58 61 true).run Tryd.prog w = .ok (.tuple #[.agg #[], .bool false]) w := by kernel_rfl
theorem ta_between_variable (op l : Int) (sg : ByteArray) (w : World) : (Instr.typeAssert (.iface 67 (.agg #[.int .i64 op, .string sg, .int .i64 l])) 58 63 true).run Tryd.prog w = .ok (.tuple #[.agg #[], .bool false]) w := by kernel_rfl
theorem ta_between_between (op l : Int) (sg : ByteArray) (w : World) : (Instr.typeAssert (.iface 67 (.agg #[.int .i64 op, .string sg, .int .i64 l])) 58 67 true).run Tryd.prog w = .ok (.tuple #[.agg #[.int .i64 op, .string sg, .int .i64 l], .bool true]) w := by kernel_rfl
theorem ta_ahead_number (op l : Int) (sg : ByteArray) (w : World) : (Instr.typeAssert (.iface 69 (.agg #[.int .i64 op, .string sg, .int .i64 l])) 58 61 true).run Tryd.prog w = .ok (.tuple #[.agg #[], .bool false]) w := by kernel_rfl
theorem ta_ahead_variable (op l : Int) (sg : ByteArray) (w : World) : (Instr.typeAssert (.iface 69 (.agg #[.int .i64 op, .string sg, .int .i64 l])) 58 63 true).run Tryd.prog w = .ok (.tuple #[.agg #[], .bool false]) w := by kernel_rfl
theorem ta_ahead_between (op l : Int) (sg : ByteArray) (w : World) : (Instr.typeAssert (.iface 69 (.agg #[.int .i64 op, .string sg, .int .i64 l])) 58 67 true).run Tryd.prog w = .ok (.tuple #[.agg #[.int .i64 0, .string ⟨#[]⟩, .int .i64 0], .bool false]) w := by kernel_rfl
theorem ta_ahead_ahead (op l : Int) (sg : ByteArray) (w : World) : (Instr.typeAssert (.iface 69 (.agg #[.int .i64 op, .string sg, .int .i64 l])) 58 69 true).run Tryd.prog w = .ok (.tuple #[.agg #[.int .i64 op, .string sg, .int .i64 l], .bool true]) w := by kernel_rfl
theorem ta_call_number (w : World) : (Instr.typeAssert (.iface 70 (.agg #[])) 58 61 true).run Tryd.prog w = .ok (.tuple #[.agg #[], .bool false]) w := by kernel_rfl
theorem ta_call_variable (w : World) : (Instr.typeAssert (.iface 70 (.agg #[])) 58 63 true).run Tryd.prog w = .ok (.tuple #[.agg #[], .bool false]) w := by kernel_rfl
theorem ta_call_between (w : World) : (Instr.typeAssert (.iface 70 (.agg #[])) 58 67 true).run Tryd.prog w = .ok (.tuple #[.agg #[.int .i64 0, .string ⟨#[]⟩, .int .i64 0], .bool false]) w := by kernel_rfl
theorem ta_call_ahead (w : World) : (Instr.typeAssert (.iface 70 (.agg #[])) 58 69 true).run Tryd.prog w = .ok (.tuple #[.agg #[.int .i64 0, .string ⟨#[]⟩, .int .i64 0], .bool false]) w := by kernel_rfl
theorem ta_call_call (w : World) : (Instr.typeAssert (.iface 70 (.agg #[])) 58 70 true).run Tryd.prog w = .ok (.tuple #[.agg #[], .bool true]) w := by kernel_rfl
/-- Three cells of a block. -/
def Bx3 (w : World) (k : Nat) (v0 v1 v2 : Value) : Prop := w.cell? ⟨k, 0, none⟩ = some v0 ∧ w.cell? ⟨k, 1, none⟩ = some v1 ∧ w.cell? ⟨k, 2, none⟩ = some v2
theorem Bx3.new (w : World) (v0 v1 v2 : Value) (t : TypeId) : Bx3 (w.alloc (.cells #[v0, v1, v2] t)) w.heap.size v0 v1 v2 := ⟨alloc_cell w _ _ _ 0, alloc_cell w _ _ _ 1, alloc_cell w _ _ _ 2⟩
theorem Bx3.put {w w' : World} {base k : Nat} {v v' v0 v1 v2 : Value} (h : Bx3 w k v0 v1 v2) (hp : Put base v v' w w') (hk : k < w.heap.size) (hne : v.ownBlock ≠ some k) : Bx3 w' k v0 v1 v2 :=
  ⟨(hp.cell hk hne).trans h.1, (hp.cell hk hne).trans h.2.1, (hp.cell hk hne).trans h.2.2⟩
set_option maxHeartbeats 2000000 in
theorem addExpr_num (m : Nat) (hm : m ≤ 255) (A : Option Addr) (cap : Nat) (w : World) (base : Nat) (v : Value) (l : List W) (hW : WRow w base v l) (hE : Env base w) (hl : l.length ≤ 999999) :
    Calls Tryd.prog 19 #[v, .agg #[.int .i64 1, .int .i64 (m : Int), .string ⟨#[]⟩, .slice A 0 cap]] w (AddRet base v (l ++ wE (numE m) 0) w) := by
  have HWE := Lib.hid (show l ++ wE (numE m) 0 = l ++ [(2, decS m)] by rw [wE_num _ (by omega)]; rfl)
  have hbs := hE.1
  have HEV := Lib.hid hE
  have hpos := dec_pos m (by omega)
  have hkd := runKind_num m (by omega)
  obtain ⟨c0, c1, c2, c3, hlt, hb⟩ := box_cells w (.int .i64 1) (.int .i64 (m : Int)) (.string ⟨#[]⟩) (.slice A 0 cap) 30
  have HW1 := Lib.hid (hW.below hb)
  have HP0 := Lib.hid (Put.of_below (v := v) hb hbs)
  have hbb := hb.mono hbs
  have K0 := kindOf_any 1 _ (hE.2 _ hbb).1
  have e1 : kindV 1 = .iface 61 (.agg #[]) := rfl
  rw [e1] at K0
  have HK := Lib.hid K0
  have CI := fun W (h : Below base w W) => Lib.hid (Tryd.strconv_Itoa (m : Int) (by omega) (by omega) W (hE.2 W h).2.1)
  have hit : (⟨(Lib.itoa (m : Int)).toArray⟩ : ByteArray) = decS m := by unfold Lib.itoa decS; rw [if_neg (by omega)]; rfl
  rw [hit] at CI
  clear hW hE K0 e1 hit
  generalize decS m = dm at *
  have ta0 := ta_number_number
  go_enter Tryd.func19, Tryd.ntmps19
  go_wp2_with fail
  generalize w.alloc (.cells #[.int .i64 1, .int .i64 (m : Int), .string ⟨#[]⟩, .slice A 0 cap] 30) = wa at *
  (with_reducible refine Calls.mono HK.out ?_)
  rintro ee w1 ⟨rfl, hb1⟩
  have g1 := (hb1.cell (p := ⟨w.heap.size, 1, none⟩) hlt).trans c1
  have hal := (Below.refl w1.heap.size w1).alloc (Nat.le_refl _) (.cells #[] 61)
  have hws : w.heap.size < w1.heap.size := Nat.lt_of_lt_of_le hlt hb1.size
  have hba : base ≤ wa.heap.size := Nat.le_trans hbs (Nat.le_of_lt hlt)
  have hb1b : base ≤ w1.heap.size := Nat.le_trans hba hb1.size
  have HW2 := Lib.hid ((HW1.out.below hb1).below hal)
  have HP2 := Lib.hid (HP0.out.trans ((Put.of_below (v := v) hb1 hba).trans (Put.of_below (v := v) hal hb1b)))
  have CI2 := Lib.hid (CI _ HP2.out.below).out
  clear CI c0 c1 c2 c3 hb HW1 HP0
  go_wp2_with fail
  (with_reducible refine Calls.mono CI2.out ?_)
  rintro ee w3 ⟨rfl, kk, os, hw3⟩
  have hb3 : Below (w1.alloc (.cells #[] 61)).heap.size (w1.alloc (.cells #[] 61)) w3 := by subst hw3; exact Lib.below_grow _ _ (Nat.le_refl _) kk os
  have hb2b : base ≤ (w1.alloc (.cells #[] 61)).heap.size := Nat.le_trans hb1b hal.size
  have hb3b : base ≤ w3.heap.size := Nat.le_trans hb2b hb3.size
  have HW3 := Lib.hid (HW2.out.below hb3)
  have HP3 := Lib.hid (HP2.out.trans (Put.of_below (v := v) hb3 hb2b))
  have AS := Lib.hid (addText_one base v l dm 2 w3 HW3.out (HEV.out.next HP3.out.below) hpos hkd (by omega))
  clear hw3 hb3 hal hb1 g1 CI2 HW2 HP2
  go_wp2_with fail
  (with_reducible refine Calls.mono AS.out ?_)
  rintro ee w4 ⟨v4, rfl, hW4, hP4⟩
  have HPA := Lib.hid (And.intro hW4 hP4)
  clear hW4 hP4
  go_wp2
  go_ret
  exact ⟨_, rfl, by rw [HWE.out]; exact HPA.out.1, HP3.out.trans HPA.out.2⟩
set_option maxHeartbeats 2000000 in
theorem addExpr_var (s : ByteArray) (hs : nameB s = true) (A : Option Addr) (cap : Nat) (w : World) (base : Nat) (v : Value) (l : List W) (hW : WRow w base v l) (hE : Env base w) (hl : l.length ≤ 999999) :
    Calls Tryd.prog 19 #[v, .agg #[.int .i64 2, .int .i64 0, .string s, .slice A 0 cap]] w (AddRet base v (l ++ wE (varE s) 0) w) := by
  have HWE := Lib.hid (show l ++ wE (varE s) 0 = l ++ [(1, s)] by rw [wE_var _ (by omega)])
  have hbs := hE.1
  have HEV := Lib.hid hE
  have hpos := name_pos hs
  have hkd := runKind_name hs
  obtain ⟨c0, c1, c2, c3, hlt, hb⟩ := box_cells w (.int .i64 2) (.int .i64 0) (.string s) (.slice A 0 cap) 30
  have HW1 := Lib.hid (hW.below hb)
  have HP0 := Lib.hid (Put.of_below (v := v) hb hbs)
  have hbb := hb.mono hbs
  have K0 := kindOf_any 2 _ (hE.2 _ hbb).1
  have e1 : kindV 2 = .iface 63 (.agg #[]) := rfl
  rw [e1] at K0
  have HK := Lib.hid K0
  clear hW hE K0 e1
  have ta0 := ta_variable_number
  have ta1 := ta_variable_variable
  go_enter Tryd.func19, Tryd.ntmps19
  go_wp2_with fail
  generalize w.alloc (.cells #[.int .i64 2, .int .i64 0, .string s, .slice A 0 cap] 30) = wa at *
  (with_reducible refine Calls.mono HK.out ?_)
  rintro ee w1 ⟨rfl, hb1⟩
  have g2 := (hb1.cell (p := ⟨w.heap.size, 2, none⟩) hlt).trans c2
  have hal := (Below.refl w1.heap.size w1).alloc (Nat.le_refl _) (.cells #[] 63)
  have hws : w.heap.size < w1.heap.size := Nat.lt_of_lt_of_le hlt hb1.size
  have hba : base ≤ wa.heap.size := Nat.le_trans hbs (Nat.le_of_lt hlt)
  have hb1b : base ≤ w1.heap.size := Nat.le_trans hba hb1.size
  have HW3 := Lib.hid ((HW1.out.below hb1).below hal)
  have HP3 := Lib.hid (HP0.out.trans ((Put.of_below (v := v) hb1 hba).trans (Put.of_below (v := v) hal hb1b)))
  have AS := addText_one base v l s 1 _ HW3.out (HEV.out.next HP3.out.below) hpos hkd (by omega)
  rw [World.size_alloc] at AS
  replace AS := Lib.hid AS
  clear hal hb1 c0 c1 c2 c3 hb HW1 HP0
  go_wp2_with fail
  (with_reducible refine Calls.mono AS.out ?_)
  rintro ee w4 ⟨v4, rfl, hW4, hP4⟩
  have HPA := Lib.hid (And.intro hW4 hP4)
  clear hW4 hP4
  go_wp2
  go_ret
  exact ⟨_, rfl, by rw [HWE.out]; exact HPA.out.1, HP3.out.trans HPA.out.2⟩
set_option maxHeartbeats 2000000 in
theorem addExpr_call (d : Nat) (HE : AddE d) (s : ByteArray) (hs : nameB s = true) (ks : List E) (hk : ∀ k ∈ ks, formE d k = true) (A : Option Addr) (cap : Nat) (w : World) (base : Nat) (v : Value) (l : List W) (hW : WRow w base v l) (hE : Env base w) (hR : RdS w base ks A) (hl : l.length + 6 * (1 + sizeL ks) ≤ 1000000) :
    Calls Tryd.prog 19 #[v, .agg #[.int .i64 13, .int .i64 0, .string s, .slice A ks.length cap]] w (AddRet base v (l ++ wE (callE s ks) 0) w) := by
  have hbs := hE.1
  have HEV := Lib.hid hE
  have hpos := name_pos hs
  have hkd := runKind_name hs
  have HWE := Lib.hid (show l ++ wE (callE s ks) 0 = (l ++ [(1, s), (3, ⟨#[40]⟩)] ++ callTo ks ks.length) ++ [(3, ⟨#[41]⟩)] by rw [wE_call _ _ (by omega), callTo_end]; simp [lpS, rpS])
  have HCL := Lib.hid (callTo_len hk ks.length)
  have hll := length_le_sizeL ks
  obtain ⟨c0, c1, c2, c3, hlt, hb⟩ := box_cells w (.int .i64 13) (.int .i64 0) (.string s) (.slice A ks.length cap) 30
  have HF0 := Lib.hid (hW.free (Nat.le_refl w.heap.size))
  have HW1 := Lib.hid (hW.below hb)
  have HP0 := Lib.hid (Put.of_below (v := v) hb hbs)
  have hbb := hb.mono hbs
  have K0 := kindOf_any 13 _ (hE.2 _ hbb).1
  have e1 : kindV 13 = .iface 70 (.agg #[]) := rfl
  rw [e1] at K0
  have HK := Lib.hid K0
  have AL := fun W v' (h1 : WRow W base v' (l ++ [(1, s), (3, ⟨#[40]⟩)])) (h2 : Below base w W) => Lib.hid (addListed_any d HE ks hk A cap W base v' _ h1 (hE.next h2) (hR.below h2) (by simp only [List.length_append, List.length_cons, List.length_nil]; omega))
  clear hW hE K0 e1 HE hk hR
  generalize l ++ wE (callE s ks) 0 = lw at *
  have hlln : l.length ≤ 999994 := by omega
  have ta0 := ta_call_number
  have ta1 := ta_call_variable
  have ta2 := ta_call_between
  have ta3 := ta_call_ahead
  have ta4 := ta_call_call
  go_enter Tryd.func19, Tryd.ntmps19
  go_wp2_with fail
  generalize w.alloc (.cells #[.int .i64 13, .int .i64 0, .string s, .slice A ks.length cap] 30) = wa at *
  (with_reducible refine Calls.mono HK.out ?_)
  rintro ee w1 ⟨rfl, hb1⟩
  have g0 := (hb1.cell (p := ⟨w.heap.size, 0, none⟩) hlt).trans c0
  have g1 := (hb1.cell (p := ⟨w.heap.size, 1, none⟩) hlt).trans c1
  have g2 := (hb1.cell (p := ⟨w.heap.size, 2, none⟩) hlt).trans c2
  have g3 := (hb1.cell (p := ⟨w.heap.size, 3, none⟩) hlt).trans c3
  have hal := (Below.refl w1.heap.size w1).alloc (Nat.le_refl _) (.cells #[] 70)
  have hws : w.heap.size < w1.heap.size := Nat.lt_of_lt_of_le hlt hb1.size
  have hba : base ≤ wa.heap.size := Nat.le_trans hbs (Nat.le_of_lt hlt)
  have hb1b : base ≤ w1.heap.size := Nat.le_trans hba hb1.size
  have HW3 := Lib.hid ((HW1.out.below hb1).below hal)
  have HP3 := Lib.hid (HP0.out.trans ((Put.of_below (v := v) hb1 hba).trans (Put.of_below (v := v) hal hb1b)))
  have hlb : w.heap.size < (w1.alloc (.cells #[] 70)).heap.size := Nat.lt_of_lt_of_le hws hal.size
  have hbz := Nat.le_trans hb1b hal.size
  have f2 := (hal.cell (p := ⟨w.heap.size, 2, none⟩) hws).trans g2
  have f3 := (hal.cell (p := ⟨w.heap.size, 3, none⟩) hws).trans g3
  have HF3 := Lib.hid (show v.ownBlock ≠ some w.heap.size from HF0.out)
  have AS := addText_two base v l s ⟨#[40]⟩ 1 3 _ HW3.out (HEV.out.next HP3.out.below) hpos (by decide) hkd kind_lp (by omega)
  rw [World.size_alloc] at AS
  replace AS := Lib.hid AS
  clear hal hb1 c0 c1 c2 c3 hb HW1 HP0 g0 g1
  go_wp2_with fail
  (with_reducible refine Calls.mono AS.out ?_)
  rintro ee w4 ⟨v4, rfl, hW4, hP4⟩
  have k3 := (hP4.cell (k := w.heap.size) (o := 3) hlb HF3.out).trans f3
  have HP4 := Lib.hid (HP3.out.trans hP4)
  have AL4 := Lib.hid (AL w4 v4 hW4 HP4.out.below).out
  clear hW4 hP4 AS AL f2 f3
  go_wp2_with fail
  (with_reducible refine Calls.mono AL4.out ?_)
  rintro ee w5 ⟨v5, rfl, hW5, hP5⟩
  have HP5 := Lib.hid (HP4.out.trans hP5)
  have AR := Lib.hid (addText_one base v5 _ ⟨#[41]⟩ 3 w5 hW5 (HEV.out.next HP5.out.below) (by decide) kind_rp (by have := HCL.out; simp only [List.length_append, List.length_cons, List.length_nil]; omega))
  clear hW5 hP5 AL4 k3
  go_wp2_with fail
  (with_reducible refine Calls.mono AR.out ?_)
  rintro ee w6 ⟨v6, rfl, hW6, hP6⟩
  have HW6 := Lib.hid hW6
  have HP6 := Lib.hid hP6
  clear hW6 hP6
  go_wp2
  go_ret
  exact ⟨_, rfl, by rw [HWE.out]; exact HW6.out, HP5.out.trans HP6.out⟩
set_option maxHeartbeats 2000000 in
theorem addExpr_un (d : Nat) (HE : AddE d) (op : Int) (ho : op = 11 ∨ op = 12) (x : E) (hx : formE d x = true) (A : Option Addr) (cap : Nat) (w : World) (base : Nat) (v : Value) (l : List W) (hW : WRow w base v l) (hE : Env base w) (hR : RdS w base [x] A) (hl : l.length + 6 * (1 + sizeE x) ≤ 1000000) :
    Calls Tryd.prog 19 #[v, .agg #[.int .i64 op, .int .i64 0, .string ⟨#[]⟩, .slice A 1 cap]] w (AddRet base v (l ++ wE (unE op x) 0) w) := by
  have hbs := hE.1
  have HEV := Lib.hid hE
  have hsk := runKind_sgn (show 3 ≤ op ∧ op ≤ 12 by omega)
  have hsp : 0 < (sgnS op).size := by rcases ho with rfl | rfl <;> decide
  have h5 := lvl_un ho
  have HWE := Lib.hid (show l ++ wE (unE op x) 0 = (l ++ [(3, sgnS op)]) ++ wE x 5 by rw [wE_un ho _ (by omega)]; simp)
  obtain ⟨b, o, rfl, hB, ⟨d0, d1, d2⟩, A', cap', d3, hr'⟩ := hR.at_ (i := 0) (by simp)
  rw [Nat.zero_mul, Nat.add_zero] at d0 d1 d2 d3
  replace d0 : w.cell? ⟨b, o, none⟩ = some (.int .i64 x.op) := d0
  replace d1 : w.cell? ⟨b, o + 1, none⟩ = some (.int .i64 x.n) := d1
  replace d2 : w.cell? ⟨b, o + 2, none⟩ = some (.string x.name) := d2
  replace d3 : w.cell? ⟨b, o + 3, none⟩ = some (.slice A' x.kids.length cap') := d3
  replace hr' : RdS w base x.kids A' := hr'
  have hfour : Four w b o (.int .i64 x.op) (.int .i64 x.n) (.string x.name) (.slice A' x.kids.length cap') := ⟨d0, d1, d2, d3⟩
  have H4 := Lib.hid hfour
  obtain ⟨c0, c1, c2, c3, hlt, hb⟩ := box_cells w (.int .i64 op) (.int .i64 0) (.string ⟨#[]⟩) (.slice (some ⟨b, o, none⟩) 1 cap) 30
  have HF0 := Lib.hid (hW.free (Nat.le_refl w.heap.size))
  have HW1 := Lib.hid (hW.below hb)
  have HP0 := Lib.hid (Put.of_below (v := v) hb hbs)
  have hbb := hb.mono hbs
  have K0 := kindOf_any op _ (hE.2 _ hbb).1
  rw [kindV_un ho, h5] at K0
  have HK := Lib.hid K0
  have AK := fun W v' l' (h1 : WRow W base v' l') (h2 : Below base w W) (h3 : l'.length ≤ l.length + 1) => addKid_any d HE x hx 5 (by omega) A' cap' W base v' l' h1 (hE.next h2) (hr'.below h2) (by omega)
  unfold exV at AK
  have AK := fun W v' l' h1 h2 h3 => Lib.hid (AK W v' l' h1 h2 h3)
  have hll : l.length ≤ 900000 ∨ l.length ≤ 1000000 := by omega
  have hl1 : l.length ≤ 1000000 := by omega
  clear hW hE K0 HE hx hR d0 d1 d2 d3 hfour hr' ho h5 hll
  obtain ⟨op', n', s', ks'⟩ := x
  dsimp only [E.op, E.n, E.name, E.kids] at H4 AK
  generalize wE (E.mk op' n' s' ks') 5 = we at *
  generalize l ++ wE (unE op (E.mk op' n' s' ks')) 0 = lw at *
  obtain ⟨sg, hsg⟩ : ∃ sg, sg = sgnS op := ⟨_, rfl⟩
  rw [← hsg] at HWE HK hsk hsp
  clear hsg
  have ta0 := ta_ahead_number op 5 sg
  have ta1 := ta_ahead_variable op 5 sg
  have ta2 := ta_ahead_between op 5 sg
  have ta3 := ta_ahead_ahead op 5 sg
  go_enter Tryd.func19, Tryd.ntmps19
  go_wp2_with fail
  generalize w.alloc (.cells #[.int .i64 op, .int .i64 0, .string ⟨#[]⟩, .slice (some ⟨b, o, none⟩) 1 cap] 30) = wa at *
  (with_reducible refine Calls.mono HK.out ?_)
  rintro ee w1 ⟨rfl, hb1⟩
  have g3 := (hb1.cell (p := ⟨w.heap.size, 3, none⟩) hlt).trans c3
  have hal := (Below.refl w1.heap.size w1).alloc (Nat.le_refl _) (.cells #[.int .i64 op, .string sg, .int .i64 (5 : Nat)] 69)
  have hws : w.heap.size < w1.heap.size := Nat.lt_of_lt_of_le hlt hb1.size
  have hba : base ≤ wa.heap.size := Nat.le_trans hbs (Nat.le_of_lt hlt)
  have hb1b : base ≤ w1.heap.size := Nat.le_trans hba hb1.size
  have HWb := Lib.hid (HW1.out.below hb1)
  have HW3 := Lib.hid (HWb.out.below hal)
  have HFb := Lib.hid (WRow.free HWb.out (Nat.le_refl w1.heap.size))
  have HP3 := Lib.hid (HP0.out.trans ((Put.of_below (v := v) hb1 hba).trans (Put.of_below (v := v) hal hb1b)))
  have HBx := Lib.hid (Bx3.new w1 (.int .i64 op) (.string sg) (.int .i64 (5 : Nat)) 69)
  have k3 := (hal.cell (p := ⟨w.heap.size, 3, none⟩) hws).trans g3
  have hlb : w1.heap.size < (w1.alloc (.cells #[.int .i64 op, .string sg, .int .i64 (5 : Nat)] 69)).heap.size := by rw [World.size_alloc]; omega
  have hbz : base ≤ (w1.alloc (.cells #[.int .i64 op, .string sg, .int .i64 (5 : Nat)] 69)).heap.size := Nat.le_trans hb1b hal.size
  have AS := addText_one base v l sg 3 _ HW3.out (HEV.out.next HP3.out.below) hsp hsk hl1
  rw [World.size_alloc] at AS
  replace AS := Lib.hid AS
  clear hb1 c0 c1 c2 c3 hb HW1 HP0 g3
  go_wp2_with fail
  (with_reducible refine Calls.mono AS.out ?_)
  rintro ee w4 ⟨v4, rfl, hW4, hP4⟩
  have m3 := (hP4.cell (k := w.heap.size) (o := 3) (Nat.lt_trans hws hlb) HF0.out).trans k3
  obtain ⟨n0, n1, n2⟩ := HBx.out.put hP4 hlb HFb.out
  have HW4 := Lib.hid hW4
  have HP4 := Lib.hid hP4
  have hbw4 := HP3.out.below.trans HP4.out.below
  have HAK := Lib.hid (show Hid _ from AK w4.drew v4 _ HW4.out hbw4.drew (by rw [List.length_append]; exact Nat.le_refl _))
  obtain ⟨f0, f1, f2, f3⟩ := H4.out.keep hbw4 hB
  have hwb : w.heap.size < w4.heap.size := Nat.lt_of_lt_of_le (Nat.lt_trans hws hlb) HP4.out.below.size
  have KX := Lib.hid (show ∀ v5 w5, Put base v4 v5 w4.drew w5 → (w5.cell? ⟨w.heap.size, 3, none⟩ = some (.slice (some ⟨b, o, none⟩) 1 cap) ∧ w5.cell? ⟨w1.heap.size, 2, none⟩ = some (.int .i64 5)) ∧ Four w5 b o (.int .i64 op') (.int .i64 n') (.string s') (.slice A' ks'.length cap') from fun v5 w5 h =>
    ⟨⟨(Put.cell (a := w4.drew) h hwb (HP4.out.ne (Nat.lt_trans hws hlb) HF0.out)).trans m3, (Put.cell (a := w4.drew) h (Nat.lt_of_lt_of_le hlb HP4.out.below.size) (HP4.out.ne hlb HFb.out)).trans n2⟩, H4.out.keep (hbw4.drew.trans h.below) hB⟩)
  have hbz4 : base ≤ w4.heap.size := Nat.le_trans hbz HP4.out.below.size
  have HPD := Lib.hid (Put.of_below (v := v4) (Below.refl _ w4).drew hbz4)
  clear hW4 hP4 AK k3 hal
  go_wp2
  go_region_held3 (fun u => u.cell? ⟨w.heap.size, 3, none⟩ = some (.slice (some ⟨b, o, none⟩) 1 cap) ∧ u.cell? ⟨w1.heap.size, 2, none⟩ = some (.int .i64 5) ∧ u.cell? ⟨b, o, none⟩ = some (.int .i64 op') ∧ u.cell? ⟨b, o + 1, none⟩ = some (.int .i64 n') ∧ u.cell? ⟨b, o + 2, none⟩ = some (.string s') ∧ u.cell? ⟨b, o + 3, none⟩ = some (.slice A' ks'.length cap')) (go_keep)
    (first
      | (go_at_call 36; (with_reducible refine Calls.mono HAK.out.out ?_); rintro ee w5 ⟨v5, rfl, hW5, hP5⟩; have HW5 := Lib.hid hW5; have HP5 := Lib.hid hP5; clear hW5 hP5; obtain ⟨⟨p3, p2⟩, q0, q1, q2, q3⟩ := KX.out _ _ HP5.out))
  all_goals
    clear p3 p2 q0 q1 q2 q3 f0 f1 f2 f3 m3 n0 n1 n2
    go_wp2
    go_ret
    exact ⟨_, rfl, by rw [HWE.out]; exact HW5.out, HP3.out.trans (HP4.out.trans (HPD.out.trans HP5.out))⟩
set_option maxHeartbeats 4000000 in
theorem addExpr_bin (d : Nat) (HE : AddE d) (op : Int) (ho : 3 ≤ op ∧ op ≤ 10) (x y : E) (hx : formE d x = true) (hy : formE d y = true) (A : Option Addr) (cap : Nat) (w : World) (base : Nat) (v : Value) (l : List W) (hW : WRow w base v l) (hE : Env base w) (hR : RdS w base [x, y] A) (hl : l.length + 6 * (1 + (sizeE x + sizeE y)) ≤ 1000000) :
    Calls Tryd.prog 19 #[v, .agg #[.int .i64 op, .int .i64 0, .string ⟨#[]⟩, .slice A 2 cap]] w (AddRet base v (l ++ wE (binE op x y) 0) w) := by
  have hbs := hE.1
  have HEV := Lib.hid hE
  have hsk := runKind_sgn (show 3 ≤ op ∧ op ≤ 12 by omega)
  have hsp : 0 < (sgnS op).size := by
    have : op = 3 ∨ op = 4 ∨ op = 5 ∨ op = 6 ∨ op = 7 ∨ op = 8 ∨ op = 9 ∨ op = 10 := by omega
    rcases this with rfl | rfl | rfl | rfl | rfl | rfl | rfl | rfl <;> decide
  have hv : 1 ≤ lvl op ∧ lvl op ≤ 4 := by
    have : op = 3 ∨ op = 4 ∨ op = 5 ∨ op = 6 ∨ op = 7 ∨ op = 8 ∨ op = 9 ∨ op = 10 := by omega
    rcases this with rfl | rfl | rfl | rfl | rfl | rfl | rfl | rfl <;> decide
  have HWE := Lib.hid (show l ++ wE (binE op x y) 0 = ((l ++ wE x (lvl op)) ++ [(3, sgnS op)]) ++ wE y (lvl op + 1) by rw [wE_bin ho _ _ (by omega)]; simp)
  have hwx := wE_bd d x hx (lvl op)
  obtain ⟨b, o, rfl, hB, ⟨d0, d1, d2⟩, A', cap', d3, hr'⟩ := hR.at_ (i := 0) (by simp)
  obtain ⟨b2, o2, he2, hB2, ⟨y0, y1, y2⟩, A2, cap2, y3, hr2⟩ := hR.at_ (i := 1) (by simp)
  injection he2 with he2
  injection he2 with he2 he3
  subst he2
  subst he3
  rw [Nat.zero_mul, Nat.add_zero] at d0 d1 d2 d3
  rw [Nat.one_mul] at y0 y1 y2 y3
  have e0 : [x, y][0] = x := rfl
  have e1 : [x, y][1] = y := rfl
  rw [e0] at d0 d1 d2 d3 hr'
  rw [e1] at y0 y1 y2 y3 hr2
  have H4 := Lib.hid (show Four w b o (.int .i64 x.op) (.int .i64 x.n) (.string x.name) (.slice A' x.kids.length cap') from ⟨d0, d1, d2, d3⟩)
  have H5 := Lib.hid (show Four w b (o + 4) (.int .i64 y.op) (.int .i64 y.n) (.string y.name) (.slice A2 y.kids.length cap2) from ⟨y0, y1, y2, y3⟩)
  obtain ⟨c0, c1, c2, c3, hlt, hb⟩ := box_cells w (.int .i64 op) (.int .i64 0) (.string ⟨#[]⟩) (.slice (some ⟨b, o, none⟩) 2 cap) 30
  have HF0 := Lib.hid (hW.free (Nat.le_refl w.heap.size))
  have HW1 := Lib.hid (hW.below hb)
  have HP0 := Lib.hid (Put.of_below (v := v) hb hbs)
  have hbb := hb.mono hbs
  have K0 := kindOf_any op _ (hE.2 _ hbb).1
  rw [kindV_bin ho] at K0
  have HK := Lib.hid K0
  have AX := fun W v' l' (h1 : WRow W base v' l') (h2 : Below base w W) (h3 : l'.length ≤ l.length) => addKid_any d HE x hx (lvl op) (by omega) A' cap' W base v' l' h1 (hE.next h2) (hr'.below h2) (by omega)
  have AY := fun W v' l' (h1 : WRow W base v' l') (h2 : Below base w W) (h3 : l'.length ≤ l.length + (wE x (lvl op)).length + 1) => addKid_any d HE y hy (lvl op + 1) (by omega) A2 cap2 W base v' l' h1 (hE.next h2) (hr2.below h2) (by omega)
  unfold exV at AX AY
  have hcast : ((lvl op + 1 : Nat) : Int) = (lvl op : Int) + 1 := by omega
  rw [hcast] at AY
  have AX := fun W v' l' h1 h2 h3 => Lib.hid (AX W v' l' h1 h2 h3)
  have AY := fun W v' l' h1 h2 h3 => Lib.hid (AY W v' l' h1 h2 h3)
  have hl1 : (l ++ wE x (lvl op)).length ≤ 1000000 := by rw [List.length_append]; omega
  have HL1 := Lib.hid hl1
  clear hW hE K0 HE hx hy hR e0 e1 d0 d1 d2 d3 y0 y1 y2 y3 hr' hr2 ho hcast hwx hl1 hl
  obtain ⟨op', n', s', ks'⟩ := x
  obtain ⟨op'', n'', s'', ks''⟩ := y
  dsimp only [E.op, E.n, E.name, E.kids] at H4 H5 AX AY
  obtain ⟨L, hL⟩ : ∃ L, L = lvl op := ⟨_, rfl⟩
  rw [← hL] at AX AY HWE HL1 HK hv
  clear hL
  generalize wE (E.mk op' n' s' ks') L = wx at *
  generalize wE (E.mk op'' n'' s'' ks'') (L + 1) = wy at *
  generalize l ++ wE (binE op (E.mk op' n' s' ks') (E.mk op'' n'' s'' ks'')) 0 = lw at *
  obtain ⟨sg, hsg⟩ : ∃ sg, sg = sgnS op := ⟨_, rfl⟩
  rw [← hsg] at HWE HK hsk hsp
  clear hsg
  have ta0 := ta_between_number op L sg
  have ta1 := ta_between_variable op L sg
  have ta2 := ta_between_between op L sg
  have hwr : IntKind.i64.wrap ((L : Int) + 1) = (L : Int) + 1 := IntWalk.i64_in _ ⟨by omega, by omega⟩
  have HWR := Lib.hid hwr
  clear hwr
  go_enter Tryd.func19, Tryd.ntmps19
  go_wp2_with fail
  generalize w.alloc (.cells #[.int .i64 op, .int .i64 0, .string ⟨#[]⟩, .slice (some ⟨b, o, none⟩) 2 cap] 30) = wa at *
  (with_reducible refine Calls.mono HK.out ?_)
  rintro ee w1 ⟨rfl, hb1⟩
  have g3 := (hb1.cell (p := ⟨w.heap.size, 3, none⟩) hlt).trans c3
  have hal := (Below.refl w1.heap.size w1).alloc (Nat.le_refl _) (.cells #[.int .i64 op, .string sg, .int .i64 (L : Int)] 67)
  have hws : w.heap.size < w1.heap.size := Nat.lt_of_lt_of_le hlt hb1.size
  have hba : base ≤ wa.heap.size := Nat.le_trans hbs (Nat.le_of_lt hlt)
  have hb1b : base ≤ w1.heap.size := Nat.le_trans hba hb1.size
  have HWb := Lib.hid (HW1.out.below hb1)
  have hW3 := HWb.out.below hal
  have HFb := Lib.hid (WRow.free HWb.out (Nat.le_refl w1.heap.size))
  have HP3 := Lib.hid (HP0.out.trans ((Put.of_below (v := v) hb1 hba).trans (Put.of_below (v := v) hal hb1b)))
  obtain ⟨x0, x1, x2⟩ := Bx3.new w1 (.int .i64 op) (.string sg) (.int .i64 (L : Int)) 67
  have k3 := (hal.cell (p := ⟨w.heap.size, 3, none⟩) hws).trans g3
  have hlb : w1.heap.size < (w1.alloc (.cells #[.int .i64 op, .string sg, .int .i64 (L : Int)] 67)).heap.size := by rw [World.size_alloc]; omega
  have hbz : base ≤ (w1.alloc (.cells #[.int .i64 op, .string sg, .int .i64 (L : Int)] 67)).heap.size := Nat.le_trans hb1b hal.size
  go_upto_region 10 with (fail)
  generalize w1.alloc (.cells #[.int .i64 op, .string sg, .int .i64 (L : Int)] 67) = wb at *
  have HW3 := Lib.hid hW3
  have hbwb := HP3.out.below
  have HAX := Lib.hid (show Hid _ from AX wb.drew v _ HW3.out hbwb.drew (Nat.le_refl _))
  have hwb : w.heap.size < wb.heap.size := Nat.lt_trans hws hlb
  have KX := Lib.hid (show ∀ v5 w5, Put base v v5 wb.drew w5 → (w5.cell? ⟨w.heap.size, 3, none⟩ = some (.slice (some ⟨b, o, none⟩) 2 cap) ∧ Bx3 w5 w1.heap.size (.int .i64 op) (.string sg) (.int .i64 (L : Int))) ∧ Four w5 b o (.int .i64 op') (.int .i64 n') (.string s') (.slice A' ks'.length cap') ∧ Four w5 b (o + 4) (.int .i64 op'') (.int .i64 n'') (.string s'') (.slice A2 ks''.length cap2) from fun v5 w5 h =>
    ⟨⟨(Put.cell (a := wb.drew) h hwb HF0.out).trans k3, Bx3.put (w := wb.drew) ⟨x0, x1, x2⟩ h hlb HFb.out⟩, H4.out.keep (hbwb.drew.trans h.below) hB, H5.out.keep (hbwb.drew.trans h.below) hB⟩)
  have HPD := Lib.hid (Put.of_below (v := v) (Below.refl _ wb).drew hbz)
  obtain ⟨f0, f1, f2, f3⟩ := H4.out.keep hbwb hB
  clear hb1 c0 c1 c2 c3 hb HW1 HP0 g3 hW3 hal AX
  go_region_held3 (fun u => u.cell? ⟨w.heap.size, 3, none⟩ = some (.slice (some ⟨b, o, none⟩) 2 cap) ∧ u.cell? ⟨w1.heap.size, 2, none⟩ = some (.int .i64 (L : Int)) ∧ u.cell? ⟨b, o, none⟩ = some (.int .i64 op') ∧ u.cell? ⟨b, o + 1, none⟩ = some (.int .i64 n') ∧ u.cell? ⟨b, o + 2, none⟩ = some (.string s') ∧ u.cell? ⟨b, o + 3, none⟩ = some (.slice A' ks'.length cap')) (go_keep)
    (first
      | (go_at_call 36; (with_reducible refine Calls.mono HAX.out.out ?_); rintro ee w5 ⟨v5, rfl, hW5, hP5⟩; have HW5 := Lib.hid hW5; have HP5 := Lib.hid hP5; clear hW5 hP5; obtain ⟨⟨p3, p0, p1, p2⟩, ⟨q0, q1, q2, q3⟩, r0, r1, r2, r3⟩ := KX.out _ _ HP5.out))
  all_goals
    have hw5 : w.heap.size < w5.heap.size := Nat.lt_of_lt_of_le hwb HP5.out.below.size
    have hl5 : w1.heap.size < w5.heap.size := Nat.lt_of_lt_of_le hlb HP5.out.below.size
    have HF5 := Lib.hid (HP5.out.ne (show w.heap.size < wb.drew.heap.size from hwb) HF0.out)
    have HG5 := Lib.hid (HP5.out.ne (show w1.heap.size < wb.drew.heap.size from hlb) HFb.out)
    have hbz5 : base ≤ w5.heap.size := Nat.le_trans hbz HP5.out.below.size
    have AS := Lib.hid (addText_one base v5 _ sg 3 w5 HW5.out (HEV.out.next ((hbwb.drew).trans HP5.out.below)) hsp hsk HL1.out)
    clear k3 x0 x1 x2 f0 f1 f2 f3 q0 q1 q2 q3
    go_wp2_with fail
    (with_reducible refine Calls.mono AS.out ?_)
    rintro ee w6 ⟨v6, rfl, hW6, hP6⟩
    have HW6 := Lib.hid hW6
    have HP6 := Lib.hid hP6
    clear hW6 hP6
    have hbw6 := (hbwb.drew.trans HP5.out.below).trans HP6.out.below
    have m3 := (HP6.out.cell (k := w.heap.size) (o := 3) hw5 HF5.out).trans p3
    obtain ⟨n0, n1, n2⟩ := Bx3.put (w := w5) ⟨p0, p1, p2⟩ HP6.out hl5 HG5.out
    obtain ⟨z0, z1, z2, z3⟩ := H5.out.keep hbw6 hB
    have HAY := Lib.hid (show Hid _ from AY w6.drew v6 _ HW6.out hbw6.drew (by simp only [List.length_append, List.length_cons, List.length_nil]; omega))
    have KY := Lib.hid (show ∀ v7 w7, Put base v6 v7 w6.drew w7 → (w7.cell? ⟨w.heap.size, 3, none⟩ = some (.slice (some ⟨b, o, none⟩) 2 cap) ∧ w7.cell? ⟨w1.heap.size, 2, none⟩ = some (.int .i64 (L : Int))) ∧ Four w7 b (o + 4) (.int .i64 op'') (.int .i64 n'') (.string s'') (.slice A2 ks''.length cap2) from fun v7 w7 h =>
      ⟨⟨(Put.cell (a := w6.drew) h (Nat.lt_of_lt_of_le hw5 HP6.out.below.size) (HP6.out.ne hw5 HF5.out)).trans m3, (Put.cell (a := w6.drew) h (Nat.lt_of_lt_of_le hl5 HP6.out.below.size) (HP6.out.ne hl5 HG5.out)).trans n2⟩, H5.out.keep (hbw6.drew.trans h.below) hB⟩)
    have HPE := Lib.hid (Put.of_below (v := v6) (Below.refl _ w6).drew (Nat.le_trans hbz5 HP6.out.below.size))
    have hwr2 : IntKind.i64.wrap ((L : Int) + 1) = (L : Int) + 1 := HWR.out
    clear p0 p1 p2 p3 r0 r1 r2 r3 AS
    go_wp2
    go_region_held3 (fun u => u.cell? ⟨w.heap.size, 3, none⟩ = some (.slice (some ⟨b, o, none⟩) 2 cap) ∧ u.cell? ⟨w1.heap.size, 2, none⟩ = some (.int .i64 (L : Int)) ∧ u.cell? ⟨b, o + 4, none⟩ = some (.int .i64 op'') ∧ u.cell? ⟨b, o + 4 + 1, none⟩ = some (.int .i64 n'') ∧ u.cell? ⟨b, o + 4 + 2, none⟩ = some (.string s'') ∧ u.cell? ⟨b, o + 4 + 3, none⟩ = some (.slice A2 ks''.length cap2)) (go_keep)
      (first
        | (go_at_call 36; (with_reducible refine Calls.mono HAY.out.out ?_); rintro ee w7 ⟨v7, rfl, hW7, hP7⟩; have HW7 := Lib.hid hW7; have HP7 := Lib.hid hP7; clear hW7 hP7; obtain ⟨⟨s3, s2⟩, t0, t1, t2, t3⟩ := KY.out _ _ HP7.out))
    all_goals
      clear hwr2 m3 n0 n1 n2 z0 z1 z2 z3 s3 s2 t0 t1 t2 t3
      go_wp2
      go_ret
      exact ⟨_, rfl, by rw [HWE.out]; exact HW7.out, (HP3.out.trans (HPD.out.trans HP5.out)).trans (HP6.out.trans (HPE.out.trans HP7.out))⟩
theorem addExpr_any : ∀ d, AddE d
  | 0 => fun e h => by cases h
  | d + 1 => by
    intro e h A cap w base v l hW hE hR hl
    have ih := addExpr_any d
    rcases form_cases h with ⟨n, rfl, h0, h1⟩ | ⟨s, rfl, hs⟩ | ⟨s, ks, rfl, hs, _, hk⟩ | ⟨op, x, rfl, ho, hx⟩ | ⟨op, x, y, rfl, ho, hx, hy⟩
    · obtain ⟨m, rfl⟩ : ∃ m : Nat, n = (m : Int) := ⟨n.toNat, by omega⟩
      exact addExpr_num m (by omega) A cap w base v l hW hE (by have := sizeE_pos (numE (m : Int)); omega)
    · exact addExpr_var s hs A cap w base v l hW hE (by have := sizeE_pos (varE s); omega)
    · exact addExpr_call d ih s hs ks hk A cap w base v l hW hE hR hl
    · exact addExpr_un d ih op ho x hx A cap w base v l hW hE hR (by rw [sizeE_un] at hl; exact hl)
    · exact addExpr_bin d ih op ho x y hx hy A cap w base v l hW hE hR (by rw [sizeE_bin] at hl; exact hl)
end Go.Proofs.YtoepehlndljkoaaDoor
