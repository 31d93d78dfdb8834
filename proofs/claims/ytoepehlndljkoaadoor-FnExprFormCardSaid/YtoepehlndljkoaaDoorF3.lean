/-
  Which expressions are valid: the model's tests; parts counted; ExprValid of both.
-/
import Derived.Test.YtoepehlndljkoaaDoorF2
namespace Go.Proofs.YtoepehlndljkoaaDoor
open Go.RowKit
set_option maxRecDepth 100000

/-- Does a number lie between two? -/
def inB (lo x hi : Int) : Bool := decide (lo ≤ x ∧ x ≤ hi)
theorem inB_yes {lo x hi : Int} (h : lo ≤ x ∧ x ≤ hi) : inB lo x hi = true := decide_eq_true h
theorem inB_no {lo x hi : Int} (h : ¬ (lo ≤ x ∧ x ≤ hi)) : inB lo x hi = false := decide_eq_false h
set_option maxHeartbeats 1000000 in
theorem l1In_b (x lo hi : Int) (w : World) :
    Calls Tryd.prog 46 #[.int .i64 x, .int .i64 lo, .int .i64 hi] w fun e w' => e = .returned (.bool (inB lo x hi)) ∧ w = w' := by
  by_cases h1 : lo ≤ x
  · go_enter Tryd.func46, Tryd.ntmps46
    go_wp2
    go_ret
    exact ⟨ret_bool (by unfold inB; simp [h1]), rfl⟩
  · have h2 : x < lo := by omega
    go_enter Tryd.func46, Tryd.ntmps46
    go_wp2
    go_ret
    exact ⟨ret_bool (inB_no (by omega)).symm, rfl⟩
/-- How many Kids an op has, at least and at most. -/
def lowK (op : Int) : Int := if op = 1 ∨ op = 2 then 0 else if op = 11 ∨ op = 12 then 1 else if op = 13 then 0 else 2
def highK (op : Int) : Int := if op = 1 ∨ op = 2 then 0 else if op = 11 ∨ op = 12 then 1 else if op = 13 then 3 else 2
set_option maxHeartbeats 1000000 in
theorem l2Kids_any (op : Int) (w : World) :
    Calls Tryd.prog 45 #[.int .i64 op] w fun e w' => e = .returned (.tuple #[.int .i64 (lowK op), .int .i64 (highK op)]) ∧ w = w' := by
  by_cases h : op = 1 ∨ op = 2 ∨ op = 11 ∨ op = 12 ∨ op = 13
  · rcases h with rfl | rfl | rfl | rfl | rfl
    all_goals
      go_enter Tryd.func45, Tryd.ntmps45
      go_wp2
      go_ret2
      exact ⟨rfl, rfl⟩
  · have b1 : (op == 1) = false := beq_no (by omega)
    have b2 : (op == 2) = false := beq_no (by omega)
    have b3 : (op == 11) = false := beq_no (by omega)
    have b4 : (op == 12) = false := beq_no (by omega)
    have b5 : (op == 13) = false := beq_no (by omega)
    have e1 : lowK op = 2 := by unfold lowK; rw [if_neg (by omega), if_neg (by omega), if_neg (by omega)]
    have e2 : highK op = 2 := by unfold highK; rw [if_neg (by omega), if_neg (by omega), if_neg (by omega)]
    rw [e1, e2]
    clear h e1 e2
    go_enter Tryd.func45, Tryd.ntmps45
    go_wp2
    go_ret2
    exact ⟨rfl, rfl⟩

set_option maxHeartbeats 1000000 in
theorem countOne (g : Nat) (n : Int) (v0 v1 v2 v3 : Value) (w : World) (hc : w.cell? ⟨g, 0, none⟩ = some (.int .i64 n)) (hf : w.frozen? ⟨g, 0, none⟩ = false) (h0 : 0 ≤ n) (h1 : n ≤ 1000000000) (hg : g < w.heap.size) :
    Calls Tryd.prog 44 #[.agg #[v0, v1, v2, v3], .pointer (some ⟨g, 0, none⟩)] w fun e w' => e = .returned (.tuple #[]) ∧ w' = (w.setCell ⟨g, 0, none⟩ (.int .i64 (n + 1))).alloc (.cells #[v0, v1, v2, v3] 30) := by
  go_enter Tryd.func44, Tryd.ntmps44
  go_wp2
  go_end0
  exact ⟨rfl, rfl⟩
/-- What the model asks of an op and its Kids, and of the rest. -/
def askA (op : Int) (len : Nat) : Bool := inB 1 op 13 && inB (lowK op) len (highK op)
noncomputable def askB (op n : Int) (s : ByteArray) : Bool := decide ((op = 2 ∨ op = 13) ↔ nameB s = true) && decide ((op = 2 ∨ op = 13) ∨ s = ⟨#[]⟩) && inB 0 n 255 && decide (op = 1 ∨ n = 0)
theorem fit_ask (op n : Int) (s : ByteArray) (len : Nat) : fitB op n s len = (askA op len && askB op n s) := by
  have hne : nameB ⟨#[]⟩ = false := nameB_empty rfl
  rw [Bool.eq_iff_iff, Bool.and_eq_true]
  constructor
  · intro h
    unfold askA askB inB
    simp only [Bool.and_eq_true, decide_eq_true_eq]
    rcases fitB_cases h with ⟨rfl, hn, rfl, rfl⟩ | ⟨rfl, rfl, rfl, hs⟩ | ⟨rfl, rfl, hl, hs⟩ | ⟨ho, rfl, rfl, rfl⟩ | ⟨ho, rfl, rfl, rfl⟩
    · exact ⟨⟨by omega, by decide⟩, ⟨⟨⟨by rw [hne]; simp, by simp⟩, hn⟩, by simp⟩⟩
    · exact ⟨⟨by omega, by decide⟩, ⟨⟨⟨by rw [hs]; simp, by simp⟩, by omega⟩, by simp⟩⟩
    · exact ⟨⟨by omega, by show lowK 13 ≤ (len : Int) ∧ (len : Int) ≤ highK 13; have e1 : lowK 13 = 0 := rfl; have e2 : highK 13 = 3 := rfl; omega⟩, ⟨⟨⟨by rw [hs]; simp, by simp⟩, by omega⟩, by simp⟩⟩
    · have e1 : lowK op = 1 ∧ highK op = 1 := by rcases ho with rfl | rfl <;> exact ⟨rfl, rfl⟩
      exact ⟨⟨by omega, by rw [e1.1, e1.2]; decide⟩, ⟨⟨⟨(by rw [hne]; constructor <;> intro h <;> first | (exfalso; omega) | (cases h)), by simp⟩, by omega⟩, by simp⟩⟩
    · have e1 : lowK op = 2 ∧ highK op = 2 := by unfold lowK highK; constructor <;> rw [if_neg (by omega), if_neg (by omega), if_neg (by omega)]
      exact ⟨⟨by omega, by rw [e1.1, e1.2]; decide⟩, ⟨⟨⟨(by rw [hne]; constructor <;> intro h <;> first | (exfalso; omega) | (cases h)), by simp⟩, by omega⟩, by simp⟩⟩
  · rintro ⟨h1, h2⟩
    unfold askA inB at h1
    unfold askB inB at h2
    simp only [Bool.and_eq_true, decide_eq_true_eq] at h1 h2
    obtain ⟨ha, hb⟩ := h1
    obtain ⟨⟨⟨hc, hd⟩, he⟩, hf⟩ := h2
    have : op = 1 ∨ op = 2 ∨ op = 13 ∨ (op = 11 ∨ op = 12) ∨ (3 ≤ op ∧ op ≤ 10) := by omega
    rcases this with rfl | rfl | rfl | ho | ho
    · have e1 : lowK 1 = 0 := rfl
      have e2 : highK 1 = 0 := rfl
      rcases hd with hd | rfl
      · omega
      · rw [fitB_num, decide_eq_true_eq]; exact ⟨he.1, he.2, rfl, by omega⟩
    · have e1 : lowK 2 = 0 := rfl
      have e2 : highK 2 = 0 := rfl
      rw [fitB_var, Bool.and_eq_true, decide_eq_true_eq]
      exact ⟨⟨by omega, by omega⟩, hc.1 (by omega)⟩
    · have e1 : lowK 13 = 0 := rfl
      have e2 : highK 13 = 3 := rfl
      rw [fitB_call, Bool.and_eq_true, decide_eq_true_eq]
      exact ⟨⟨by omega, by omega⟩, hc.1 (by omega)⟩
    · have e1 : lowK op = 1 ∧ highK op = 1 := by rcases ho with rfl | rfl <;> exact ⟨rfl, rfl⟩
      rcases hd with hd | rfl
      · omega
      · rw [fitB_un ho, decide_eq_true_eq]; exact ⟨by omega, rfl, by omega⟩
    · have e1 : lowK op = 2 ∧ highK op = 2 := by unfold lowK highK; constructor <;> rw [if_neg (by omega), if_neg (by omega), if_neg (by omega)]
      rcases hd with hd | rfl
      · omega
      · rw [fitB_bin ho, decide_eq_true_eq]; exact ⟨by omega, rfl, by omega⟩
theorem box_cells (w : World) (v0 v1 v2 v3 : Value) (t : TypeId) : (w.alloc (.cells #[v0, v1, v2, v3] t)).cell? ⟨w.heap.size, 0, none⟩ = some v0 ∧ (w.alloc (.cells #[v0, v1, v2, v3] t)).cell? ⟨w.heap.size, 1, none⟩ = some v1 ∧
    (w.alloc (.cells #[v0, v1, v2, v3] t)).cell? ⟨w.heap.size, 2, none⟩ = some v2 ∧ (w.alloc (.cells #[v0, v1, v2, v3] t)).cell? ⟨w.heap.size, 3, none⟩ = some v3 ∧ w.heap.size < (w.alloc (.cells #[v0, v1, v2, v3] t)).heap.size ∧ Below w.heap.size w (w.alloc (.cells #[v0, v1, v2, v3] t)) :=
  ⟨alloc_cell w _ _ _ 0, alloc_cell w _ _ _ 1, alloc_cell w _ _ _ 2, alloc_cell w _ _ _ 3, by rw [World.size_alloc]; omega, (Below.refl _ _).alloc (Nat.le_refl _) _⟩
set_option maxHeartbeats 2000000 in
theorem l2Form_succ (d : Nat) (hd : d < 100) (e : E) (A : Option Addr) (cap : Nat) (w : World) (hR : RdS w w.heap.size e.kids A) (hl : bulkE e ≤ 2000000)
    (ih : ∀ (e : E) (A : Option Addr) (cap : Nat) (w : World), RdS w w.heap.size e.kids A → bulkE e ≤ 2000000 → Calls Tryd.prog 25 #[exV e A cap, .int .i64 d] w (BoolB (formE d e) w)) :
    Calls Tryd.prog 25 #[exV e A cap, .int .i64 ((d : Int) + 1)] w (BoolB (formE (d + 1) e) w) := by
  unfold exV at ih ⊢
  have IH := Lib.hid ih
  have HR := Lib.hid hR
  clear ih hR
  have hfl := fit_ask e.op e.n e.name e.kids.length
  have hbk := bulkE_kids e
  have hlk := length_le_sizeL e.kids
  have hsb := sizeL_bulk e.kids
  obtain ⟨op, n, s, ks⟩ := e
  dsimp only [E.op, E.n, E.name, E.kids] at *
  have hs : s.size ≤ 2000000 := by omega
  have hkl : bulkL ks ≤ 2000000 := by omega
  have hln : ks.length ≤ 2000000 := by omega
  have HFL := Lib.hid hfl
  clear hfl hbk hlk hsb hl
  obtain ⟨c0, c1, c2, c3, hlt, hb⟩ := box_cells w (.int .i64 op) (.int .i64 n) (.string s) (.slice A ks.length cap) 30
  go_enter Tryd.func25, Tryd.ntmps25
  go_wp2_with fail
  refine (l2Kids_any _ _).mono ?_
  rintro e w' ⟨rfl, rfl⟩
  generalize w.alloc (.cells #[.int .i64 op, .int .i64 n, .string s, .slice A ks.length cap] 30) = wa at *
  go_upto_region 2 with (fail)
  go_cut [31] (fun v wx => v = .bool (!askA op ks.length) ∧ wx = wa)
  case first =>
    have hq1 : ¬ (d : Int) + 1 < 1 := by omega
    have q1 : decide ((d : Int) + 1 < 1) = false := decide_eq_false hq1
    have HA := Lib.hid (show askA op ks.length = (inB 1 op 13 && inB (lowK op) ks.length (highK op)) from rfl)
    clear IH HR c1 c2
    cases h1 : inB 1 op 13
    · have H1 := Lib.hid h1
      clear h1
      go_wp2_with ((go_at_call 46; (with_reducible refine Calls.mono (l1In_b _ _ _ _) ?_); rintro ee w1 ⟨rfl, rfl⟩; rw [H1.out]))
      go_meet
      exact ⟨by rw [HA.out, H1.out]; rfl, rfl⟩
    · have H1 := Lib.hid h1
      clear h1
      cases h2 : inB (lowK op) ks.length (highK op)
      all_goals
        have H2 := Lib.hid h2
        clear h2
        go_wp2_with fail
        (with_reducible refine Calls.mono (l1In_b _ _ _ _) ?_)
        rintro ee w1 ⟨rfl, rfl⟩
        rw [H1.out]
        go_wp2_with fail
        (with_reducible refine Calls.mono (l1In_b _ _ _ _) ?_)
        rintro ee w1 ⟨rfl, rfl⟩
        rw [H2.out]
        go_wp2
        go_meet
        exact ⟨by rw [HA.out, H1.out, H2.out]; rfl, rfl⟩
  case rest =>
    obtain ⟨rfl, rfl⟩ := hcut
    cases ha : askA op ks.length
    · have HN := Lib.hid (formE_unfit (d := d + 1) (e := E.mk op n s ks) (by show fitB op n s ks.length = false; rw [HFL.out, ha]; rfl))
      clear ha
      rw [Bool.not_false]
      go_wp2
      go_ret
      exact ⟨by rw [HN.out]; rfl, hb⟩
    have HA := Lib.hid ha
    clear ha
    rw [Bool.not_true]
    go_upto_region 4 with (fail)
    obtain ⟨nb, hnb⟩ : ∃ nb : Bool, nb = (op == 2 || op == 13) := ⟨_, rfl⟩
    have HNB := Lib.hid hnb
    clear hnb
    go_cut [7] (fun v wx => v = .bool nb ∧ wx = wc)
    case first =>
      clear IH HR c1 c2 c3
      by_cases h2 : op = 2
      · have b2 := beq_yes h2
        have b3 : (op == 13) = false := beq_no (by omega)
        clear h2
        go_wp2
        go_meet
        exact ⟨by rw [HNB.out, b2]; rfl, rfl⟩
      · have b2 := beq_no h2
        clear h2
        go_wp2
        go_meet
        exact ⟨by rw [HNB.out, b2]; rfl, rfl⟩
    case rest =>
      obtain ⟨rfl, rfl⟩ := hcut
      obtain ⟨wb, rfl⟩ : ∃ wb : World, wb = wc := ⟨_, rfl⟩
      go_upto_region 5 with (fail)
      go_cut [69] (fun v wx => v = .bool (!askB op n s) ∧ Below wb.heap.size wb wx)
      case first =>
        have CN := fun W => Lib.hid (specIsName_any s W (by unfold maxLen; omega))
        have HQ := Lib.hid (show askB op n s = (decide ((op = 2 ∨ op = 13) ↔ nameB s = true) && decide ((op = 2 ∨ op = 13) ∨ s = ⟨#[]⟩) && inB 0 n 255 && decide (op = 1 ∨ n = 0)) from rfl)
        have HNM := Lib.hid (HNB.out.trans (show (op == 2 || op == 13) = decide (op = 2 ∨ op = 13) by rw [Bool.eq_iff_iff]; simp))
        have lt3 : ∀ W, Below wb.heap.size wb W → W.cell? ⟨w.heap.size, 0, none⟩ = some (.int .i64 op) ∧ W.cell? ⟨w.heap.size, 1, none⟩ = some (.int .i64 n) ∧ W.cell? ⟨w.heap.size, 2, none⟩ = some (.string s) := fun W h => ⟨(h.cell (p := ⟨w.heap.size, 0, none⟩) hlt).trans c0, (h.cell (p := ⟨w.heap.size, 1, none⟩) hlt).trans c1, (h.cell (p := ⟨w.heap.size, 2, none⟩) hlt).trans c2⟩
        have LT3 := Lib.hid lt3
        clear IH HR lt3 c3 HNB
        cases nb
        rotate_left
        · have hn : op = 2 ∨ op = 13 := of_decide_eq_true HNM.out.symm
          have hb1 : (op == 1) = false := beq_no (by omega)
          have hb2 : (op != 1) = true := by rw [bne, hb1]; rfl
          have HN := Lib.hid hn
          clear hn HNM
          cases hB : nameB s
          · rw [hB] at CN
            have HB := Lib.hid hB
            clear hB
            go_wp2_with fail
            refine Calls.mono (CN _).out ?_
            rintro ee w1 ⟨rfl, hbx⟩
            go_wp2
            go_meet
            exact ⟨by rw [HQ.out, decide_eq_false (p := (op = 2 ∨ op = 13) ↔ nameB s = true) (by rw [HB.out]; simp [HN.out])]; rfl, hbx⟩
          · rw [hB] at CN
            have HB := Lib.hid hB
            clear hB
            cases hI : inB 0 n 255
            · have HI := Lib.hid hI
              clear hI
              go_wp2_with fail
              refine Calls.mono (CN _).out ?_
              rintro ee w1 ⟨rfl, hbx⟩
              obtain ⟨k0, k1, k2⟩ := LT3.out _ hbx
              go_wp2_with fail
              refine Calls.mono (l1In_b _ _ _ _) ?_
              rintro ee w2 ⟨rfl, rfl⟩
              rw [HI.out]
              go_wp2
              go_meet
              exact ⟨by rw [HQ.out, HI.out]; simp, hbx⟩
            · have HI := Lib.hid hI
              clear hI
              by_cases hz : n = 0
              · have z1 := beq_yes hz
                have z2 : (n != 0) = false := by rw [bne, z1]; rfl
                have HZ := Lib.hid hz
                clear hz
                go_wp2_with fail
                refine Calls.mono (CN _).out ?_
                rintro ee w1 ⟨rfl, hbx⟩
                obtain ⟨k0, k1, k2⟩ := LT3.out _ hbx
                go_wp2_with fail
                refine Calls.mono (l1In_b _ _ _ _) ?_
                rintro ee w2 ⟨rfl, rfl⟩
                rw [HI.out]
                go_wp2
                go_meet
                exact ⟨by rw [HQ.out, HI.out, HB.out]; simp [HN.out, HZ.out], hbx⟩
              · have z1 := beq_no hz
                have z2 : (n != 0) = true := by rw [bne, z1]; rfl
                have HZ := Lib.hid hz
                clear hz
                go_wp2_with fail
                refine Calls.mono (CN _).out ?_
                rintro ee w1 ⟨rfl, hbx⟩
                obtain ⟨k0, k1, k2⟩ := LT3.out _ hbx
                go_wp2_with fail
                refine Calls.mono (l1In_b _ _ _ _) ?_
                rintro ee w2 ⟨rfl, rfl⟩
                rw [HI.out]
                go_wp2
                go_meet
                exact ⟨by rw [HQ.out, decide_eq_false (p := op = 1 ∨ n = 0) (by have := HN.out; have := HZ.out; omega)]; simp, hbx⟩
        · have hn : ¬ (op = 2 ∨ op = 13) := of_decide_eq_false HNM.out.symm
          have HN := Lib.hid hn
          clear hn HNM
          cases hB : nameB s
          · rw [hB] at CN
            have HB := Lib.hid hB
            clear hB
            by_cases he : s = ⟨#[]⟩
            · cases hI : inB 0 n 255
              · have HI := Lib.hid hI
                clear hI
                subst he
                go_wp2_with fail
                refine Calls.mono (CN _).out ?_
                rintro ee w1 ⟨rfl, hbx⟩
                obtain ⟨k0, k1, k2⟩ := LT3.out _ hbx
                go_wp2_with fail
                refine Calls.mono (l1In_b _ _ _ _) ?_
                rintro ee w2 ⟨rfl, rfl⟩
                rw [HI.out]
                go_wp2
                go_meet
                exact ⟨by rw [HQ.out, HI.out]; simp, hbx⟩
              · have HI := Lib.hid hI
                clear hI
                subst he
                by_cases h1 : op = 1
                · have b1 := beq_yes h1
                  have b2 : (op != 1) = false := by rw [bne, b1]; rfl
                  have H1 := Lib.hid h1
                  clear h1
                  go_wp2_with fail
                  refine Calls.mono (CN _).out ?_
                  rintro ee w1 ⟨rfl, hbx⟩
                  obtain ⟨k0, k1, k2⟩ := LT3.out _ hbx
                  go_wp2_with fail
                  refine Calls.mono (l1In_b _ _ _ _) ?_
                  rintro ee w2 ⟨rfl, rfl⟩
                  rw [HI.out]
                  go_wp2
                  go_meet
                  exact ⟨by rw [HQ.out, HI.out, HB.out]; simp [H1.out], hbx⟩
                · have b1 := beq_no h1
                  have b2 : (op != 1) = true := by rw [bne, b1]; rfl
                  have H1 := Lib.hid h1
                  clear h1
                  by_cases hz : n = 0
                  · have z1 := beq_yes hz
                    have z2 : (n != 0) = false := by rw [bne, z1]; rfl
                    have HZ := Lib.hid hz
                    clear hz
                    go_wp2_with fail
                    refine Calls.mono (CN _).out ?_
                    rintro ee w1 ⟨rfl, hbx⟩
                    obtain ⟨k0, k1, k2⟩ := LT3.out _ hbx
                    go_wp2_with fail
                    refine Calls.mono (l1In_b _ _ _ _) ?_
                    rintro ee w2 ⟨rfl, rfl⟩
                    rw [HI.out]
                    go_wp2
                    go_meet
                    exact ⟨by rw [HQ.out, HI.out, HB.out]; simp [HN.out, HZ.out], hbx⟩
                  · have z1 := beq_no hz
                    have z2 : (n != 0) = true := by rw [bne, z1]; rfl
                    have HZ := Lib.hid hz
                    clear hz
                    go_wp2_with fail
                    refine Calls.mono (CN _).out ?_
                    rintro ee w1 ⟨rfl, hbx⟩
                    obtain ⟨k0, k1, k2⟩ := LT3.out _ hbx
                    go_wp2_with fail
                    refine Calls.mono (l1In_b _ _ _ _) ?_
                    rintro ee w2 ⟨rfl, rfl⟩
                    rw [HI.out]
                    go_wp2
                    go_meet
                    exact ⟨by rw [HQ.out, decide_eq_false (p := op = 1 ∨ n = 0) (by have := H1.out; have := HZ.out; omega)]; simp, hbx⟩
            · obtain ⟨e1, e2⟩ := full_str he
              have HE := Lib.hid he
              clear he
              go_wp2_with fail
              refine Calls.mono (CN _).out ?_
              rintro ee w1 ⟨rfl, hbx⟩
              obtain ⟨k0, k1, k2⟩ := LT3.out _ hbx
              go_wp2
              go_meet
              exact ⟨by rw [HQ.out, decide_eq_false (p := (op = 2 ∨ op = 13) ∨ s = ⟨#[]⟩) (by have := HN.out; have := HE.out; intro h; rcases h with h | h <;> contradiction)]; simp, hbx⟩
          · rw [hB] at CN
            have HB := Lib.hid hB
            clear hB
            go_wp2_with fail
            refine Calls.mono (CN _).out ?_
            rintro ee w1 ⟨rfl, hbx⟩
            go_wp2
            go_meet
            exact ⟨by rw [HQ.out, decide_eq_false (p := (op = 2 ∨ op = 13) ↔ nameB s = true) (by rw [HB.out]; simp [HN.out])]; rfl, hbx⟩
      case rest =>
        obtain ⟨rfl, hbx⟩ := hcut
        clear c0 c1 c2
        cases hq : askB op n s
        · have HN := Lib.hid (formE_unfit (d := d + 1) (e := E.mk op n s ks) (by show fitB op n s ks.length = false; rw [HFL.out, hq, Bool.and_false]))
          clear hq
          rw [Bool.not_false]
          have hbz := hb.trans (hbx.mono (Nat.le_of_lt hlt))
          go_wp2
          go_ret
          exact ⟨by rw [HN.out]; rfl, hbz⟩
        have HF := Lib.hid (show fitB op n s ks.length = true by rw [HFL.out, HA.out, hq]; rfl)
        clear hq
        rw [Bool.not_true]
        go_wp2
        go_loopw [8] (fun i wr => ∃ k : Nat, k ≤ ks.length ∧ i = .int .i64 k ∧ kidsTo d ks k ∧ Below wb.heap.size wb wr) (fun i _ => ks.length - (intOf i).toNat)
        case atStart => exact ⟨0, Nat.zero_le _, rfl, kidsTo_zero d ks, hbx⟩
        case round =>
          obtain ⟨k, hk, rfl, hall, hbr⟩ := hrel
          have HKT := Lib.hid hall
          have g3 := (hbr.cell (p := ⟨w.heap.size, 3, none⟩) hlt).trans c3
          have hbw := hb.trans (hbr.mono (Nat.le_of_lt hlt))
          have hbs := hbw.size
          clear hall
          by_cases hlk : k < ks.length
          · obtain ⟨b, o, rfl, hB, ⟨d0, d1, d2⟩, A', cap', d3, hr'⟩ := (HR.out.below hbw).at_ hlk
            have hsz : bulkE ks[k] ≤ 2000000 := by have := bulkL_mem (List.getElem_mem hlk); omega
            generalize hkd : ks[k] = kid at *
            have HK := Lib.hid hkd
            clear hkd
            obtain ⟨op', n', s', ks'⟩ := kid
            dsimp only [E.op, E.n, E.name, E.kids] at d0 d1 d2 d3 hr'
            have IHK := Lib.hid (IH.out (E.mk op' n' s' ks') A' cap' _ (hr'.more hbs) hsz)
            clear hr' hsz
            dsimp only [E.op, E.n, E.name, E.kids] at IHK
            cases hf : formE d (E.mk op' n' s' ks')
            · have HBAD := Lib.hid (formE_bad (d := d) (e := E.mk op n s ks) (i := k) hlk (by show formE d ks[k] = false; rw [HK.out]; exact hf))
              rw [hf] at IHK
              clear hf
              go_wp2_with ((go_at_call 25; (with_reducible refine Calls.mono IHK.out ?_); rintro ee w2 ⟨rfl, hb2⟩; have hb3 := hbw.trans (hb2.mono hbs)))
              go_ret
              exact ⟨by rw [HBAD.out]; rfl, hb3⟩
            · have HN := Lib.hid (kidsTo_succ HKT.out hlk (by rw [HK.out]; exact hf))
              rw [hf] at IHK
              clear hf
              go_wp2_with ((go_at_call 25; (with_reducible refine Calls.mono IHK.out ?_); rintro ee w2 ⟨rfl, hb2⟩; have hb3 := hbr.trans (hb2.mono hbr.size)))
              go_roundw
              case rel => exact ⟨k + 1, by omega, by go_num, HN.out, hb3⟩
              case measure => simp only [intOf]; omega
          · obtain rfl : k = ks.length := by omega
            have HY := Lib.hid (formE_yes (d := d) (e := E.mk op n s ks) HF.out HKT.out)
            go_wp2
            go_ret
            exact ⟨by rw [HY.out]; rfl, hbw⟩
set_option maxHeartbeats 1000000 in
theorem l2Form_zero (e : E) (A : Option Addr) (cap : Nat) (w : World) :
    Calls Tryd.prog 25 #[exV e A cap, .int .i64 0] w (BoolB (formE 0 e) w) := by
  unfold exV
  obtain ⟨c0, c1, c2, c3, hlt, hb⟩ := box_cells w (.int .i64 e.op) (.int .i64 e.n) (.string e.name) (.slice A e.kids.length cap) 30
  go_enter Tryd.func25, Tryd.ntmps25
  go_wp2_with fail
  refine (l2Kids_any _ _).mono ?_
  rintro e w' ⟨rfl, rfl⟩
  go_wp2
  go_ret
  exact ⟨rfl, hb⟩
/-- The model's test of form and depth. -/
theorem l2Form_any : ∀ (d : Nat) (_ : d ≤ 100) (e : E) (A : Option Addr) (cap : Nat) (w : World), RdS w w.heap.size e.kids A → bulkE e ≤ 2000000 →
    Calls Tryd.prog 25 #[exV e A cap, .int .i64 d] w (BoolB (formE d e) w)
  | 0, _, e, A, cap, w, _, _ => l2Form_zero e A cap w
  | d + 1, hd, e, A, cap, w, hR, hl => by
    rw [show ((d + 1 : Nat) : Int) = (d : Int) + 1 by omega]
    exact l2Form_succ d (by omega) e A cap w hR hl (fun e A cap w h1 h4 => l2Form_any d (by omega) e A cap w h1 h4)
end Go.Proofs.YtoepehlndljkoaaDoor
