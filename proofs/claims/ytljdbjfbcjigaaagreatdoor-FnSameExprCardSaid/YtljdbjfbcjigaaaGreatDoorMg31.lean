/-
  Words put behind a list by the program: blocks, functions; the program's ProgramText.
-/
import Derived.Test.YtljdbjfbcjigaaaGreatDoorMg27
import Derived.Test.YtljdbjfbcjigaaaGreatDoorMg30
namespace Go.Proofs.YtljdbjfbcjigaaaGreatDoor
open Go.RowKit Go.Maps
set_option maxRecDepth 100000

theorem tailW_else {bd el : List St} (h : el ≠ []) : tailW 5 bd el = blkW bd ++ (4, elseS) :: blkW el := by
  unfold tailW
  rw [if_pos (by decide), if_neg (by simp [h])]
theorem tailW_body {op : Int} {bd : List St} (h : op = 5 ∨ op = 6) : tailW op bd [] = blkW bd := by
  unfold tailW
  rw [if_pos h]
  show blkW bd ++ [] = blkW bd
  rw [List.append_nil]
theorem addStmt_of (d : Nat) (HB : AddB d) (t : St) (ht : formT (d + 1) t = true) (A1 A2 A3 : Option Addr) (p1 p2 p3 : Nat) (w : World) (base : Nat) (v : Value) (l : List W)
    (hW : WRow w base v l) (hE : EnvF base w) (hR : RdS w base t.args A1) (hS : StS w (Lt base) t.body A2) (hS' : StS w (Lt base) t.els A3) (hl : l.length + 400 * sizeT t ≤ 900000) :
    Calls Tryz.prog 174 #[v, .agg #[.int .i64 t.op, .string t.name, .slice A1 t.args.length p1, .slice A2 t.body.length p2, .slice A3 t.els.length p3]] w (AddRet base v (l ++ wT t) w) := by
  obtain ⟨h0, hn, hal, hao, hbf, hef⟩ := head_parts (form_head ht)
  obtain ⟨hb, he⟩ := form_body ht
  rw [sizeT_kids] at hl
  rw [wT_eq]
  obtain ⟨op, s, a, bd, el⟩ := t
  dsimp only [St.op, St.name, St.args, St.body, St.els] at *
  have hav : ∀ e ∈ a, validE e = true := fun e h => arg_valid (hao e h)
  have ha2 : a.length ≤ 2 := by have := argN_le op; omega
  have hop : op = 1 ∨ op = 2 ∨ op = 3 ∨ op = 4 ∨ op = 5 ∨ op = 6 ∨ op = 7 ∨ op = 8 := by omega
  rcases hop with rfl | rfl | rfl | rfl | rfl | rfl | rfl | rfl
  · exact addStmt_let 1 h0 s a hav ha2 bd el A1 A2 A3 p1 p2 p3 w base v l hW hE hR (by omega) (by decide) hn (.inl rfl) (by decide)
  · exact addStmt_set 2 h0 s a hav ha2 bd el A1 A2 A3 p1 p2 p3 w base v l hW hE hR (by omega) rfl hn (.inr rfl) (by decide)
  · exact addStmt_plain 3 h0 s a hav ha2 bd el A1 A2 A3 p1 p2 p3 w base v l hW hE hR (by omega) (by decide) (by decide) (by decide)
  · exact addStmt_plain 4 h0 s a hav ha2 bd el A1 A2 A3 p1 p2 p3 w base v l hW hE hR (by omega) (by decide) (by decide) (by decide)
  · by_cases hel : el = []
    · subst hel
      rw [tailW_body (.inl rfl)]
      exact addStmt_body d HB 5 h0 s a hav ha2 bd [] A1 A2 A3 p1 p2 p3 w base v l hW hE hR (by omega) hb hS rfl (by decide) (by decide) (.inl rfl)
    · rw [tailW_else hel]
      exact addStmt_else d HB 5 h0 s a hav ha2 bd el A1 A2 A3 p1 p2 p3 w base v l hW hE hR (by omega) hb hS he hS' hel (by decide) (by decide) (.inl rfl)
  · have hel : el = [] := List.length_eq_zero_iff.1 (by omega)
    subst hel
    rw [tailW_body (.inr rfl)]
    exact addStmt_body d HB 6 h0 s a hav ha2 bd [] A1 A2 A3 p1 p2 p3 w base v l hW hE hR (by omega) hb hS rfl (by decide) (by decide) (.inr rfl)
  · exact addStmt_plain 7 h0 s a hav ha2 bd el A1 A2 A3 p1 p2 p3 w base v l hW hE hR (by omega) (by decide) (by decide) (by decide)
  · exact addStmt_plain 8 h0 s a hav ha2 bd el A1 A2 A3 p1 p2 p3 w base v l hW hE hR (by omega) (by decide) (by decide) (by decide)
set_option maxHeartbeats 4000000 in
theorem addBlock_of (d : Nat) (IH : ∀ (t : St) (_ : formT d t = true) (A1 A2 A3 : Option Addr) (p1 p2 p3 : Nat) (w : World) (base : Nat) (v : Value) (l : List W), WRow w base v l → EnvF base w → RdS w base t.args A1 → StS w (Lt base) t.body A2 → StS w (Lt base) t.els A3 → l.length + 400 * sizeT t ≤ 900000 →
      Calls Tryz.prog 174 #[v, .agg #[.int .i64 t.op, .string t.name, .slice A1 t.args.length p1, .slice A2 t.body.length p2, .slice A3 t.els.length p3]] w (AddRet base v (l ++ wT t) w)) : AddB d := by
  intro ks hks A cap w base v l hW hE hR hl
  have hn : ks.length ≤ 900000 := by have := length_le_sizeTL ks; omega
  have hbs := hE.1.1
  have HL := Lib.hid (show ∀ k, (l ++ ([(3, ⟨#[123]⟩)] : List W) ++ wTL (ks.take k)).length ≤ l.length + 1 + 400 * sizeTL (ks.take k) from fun k => by
    have h2 := wTL_len (d := d) (l := ks.take k) fun t ht => hks t (List.mem_of_mem_take ht)
    simp only [List.length_append, List.length_cons, List.length_nil]
    omega)
  have HWT := Lib.hid (show l ++ blkW ks = (l ++ ([(3, ⟨#[123]⟩)] : List W) ++ wTL (ks.take ks.length)) ++ [(3, ⟨#[125]⟩)] by rw [List.take_length]; show l ++ ((3, lbS) :: (wTL ks ++ [(3, rbS)])) = (l ++ [(3, lbS)] ++ wTL ks) ++ [(3, rbS)]; simp)
  have HSZ := Lib.hid (show ∀ k, sizeTL (ks.take k) ≤ sizeTL ks from sizeTL_take_le ks)
  have HN := Lib.hid (show ∀ k, (h : k < ks.length) → wTL (ks.take (k + 1)) = wTL (ks.take k) ++ wT ks[k] from fun k h => wTL_take h)
  have HST := Lib.hid (show ∀ k, (h : k < ks.length) → sizeTL (ks.take k) + sizeT ks[k] ≤ sizeTL ks from fun k h => by rw [← sizeTL_take h]; exact sizeTL_take_le ks _)
  have HI := Lib.hid (fun k (h : k < ks.length) => IH ks[k] (hks _ (List.getElem_mem h)))
  have HR := Lib.hid hR
  have HEV := Lib.hid hE
  have AS0 := Lib.hid (addText_one base v l ⟨#[123]⟩ 3 w hW hE.1 (by decide) kind_lb (by omega))
  have hl' : l.length + 400 * sizeTL ks + 2 ≤ 900000 := hl
  clear hR hks IH hE hW hl
  generalize hgoal : l ++ blkW ks = lw at *
  clear hgoal
  go_enter Tryz.func125, Tryz.ntmps125
  go_wp2_with fail
  (with_reducible refine Calls.mono AS0.out ?_)
  rintro ee w1 ⟨v1, rfl, hW1, hp1⟩
  have HW1 := Lib.hid hW1
  have HP1 := Lib.hid hp1
  clear hW1 hp1 AS0
  go_wp2_with fail
  go_loopw [0, 12] (fun q i wr => ∃ k : Nat, k ≤ ks.length ∧ i = .int .i64 k ∧ WRow wr base q (l ++ [(3, ⟨#[123]⟩)] ++ wTL (ks.take k)) ∧ Put base v q w wr) (fun _ i _ => ks.length - (intOf i).toNat)
  case atStart => exact ⟨0, Nat.zero_le _, rfl, by rw [List.take_zero]; show WRow _ _ _ (l ++ [(3, ⟨#[123]⟩)] ++ []); rw [List.append_nil]; exact HW1.out, HP1.out⟩
  case round =>
    obtain ⟨k, hk, rfl, hWr, hP⟩ := hrel
    have HWr := Lib.hid hWr
    have HP := Lib.hid hP
    have hbw := hP.below
    have hbr := Nat.le_trans hbs hbw.size
    have hlk1 := HL.out k
    have hsk := HSZ.out k
    clear hWr hP
    by_cases hlk : k < ks.length
    · obtain ⟨b, o, rfl, hB, ⟨d0, d1⟩, ⟨A1, p1, d2, r1⟩, ⟨A2, p2, d3, r2⟩, A3, p3, d4, r3⟩ := (HR.out.on hbw (Nat.le_refl _)).at_ hlk
      have hst := HST.out k hlk
      have HNk := Lib.hid (HN.out k hlk)
      have CV := fun X v' l' (h1 : WRow X base v' l') (h2 : Below base w X) (h3 : Below base wr X) (h4 : l'.length + 400 * sizeT ks[k] ≤ 900000) => HI.out k hlk A1 A2 A3 p1 p2 p3 X base v' l' h1 (HEV.out.next h2) (r1.lt_rd.below h3) (r2.on h3 (Nat.le_refl _)) (r3.on h3 (Nat.le_refl _)) h4
      clear r1 r2 r3
      generalize hkd : ks[k] = kid at *
      clear hkd
      obtain ⟨op, s, a, bd, el⟩ := kid
      dsimp only [St.op, St.name, St.args, St.body, St.els] at d0 d1 d2 d3 d4 CV
      generalize sizeT (St.mk op s a bd el) = sk at *
      generalize wT (St.mk op s a bd el) = wk at *
      generalize sizeTL (ks.take k) = st at *
      generalize wTL (ks.take k) = wl at *
      obtain ⟨x0, x1, x2, x3, x4, hltx, hal⟩ := box5 wr (.int .i64 op) (.string s) (.slice A1 a.length p1) (.slice A2 bd.length p2) (.slice A3 el.length p3) 209
      have HWA := Lib.hid (HWr.out.below hal)
      have HPA := Lib.hid (HP.out.trans (Put.of_below hal hbr))
      have hbwa := hbw.trans (hal.mono hbr)
      have CV1 := Lib.hid (CV _ _ _ HWA.out hbwa (hal.mono hbr) (by omega))
      clear CV
      go_wp2_with fail
      (with_reducible refine Calls.mono CV1.out ?_)
      rintro ee w3 ⟨v3, rfl, hW3, hp3⟩
      have HW3 := Lib.hid hW3
      have HP3 := Lib.hid (HPA.out.trans hp3)
      clear hW3 hp3 x0 x1 x2 x3 x4 d0 d1 d2 d3 d4 CV1
      go_wp2_with fail
      go_roundw
      case rel => exact ⟨k + 1, by omega, by go_num, by rw [HNk.out, ← List.append_assoc]; exact HW3.out, HP3.out⟩
      case measure => simp only [intOf]; omega
    · obtain rfl : k = ks.length := by omega
      have AE := Lib.hid (addText_one base _ _ ⟨#[125]⟩ 3 wr HWr.out (HEV.out.next hbw).1 (by decide) kind_rb (by omega))
      generalize wTL (ks.take ks.length) = wl at *
      go_wp2_with fail
      (with_reducible refine Calls.mono AE.out ?_)
      rintro ee w3 ⟨v3, rfl, hW3, hp3⟩
      have HW3 := Lib.hid hW3
      have HP3 := Lib.hid (HP.out.trans hp3)
      clear hW3 hp3
      go_wp2_with fail
      go_ret
      exact ⟨_, rfl, by rw [HWT.out]; exact HW3.out, HP3.out⟩
theorem addStmt_any : ∀ (d : Nat) (t : St) (_ : formT d t = true) (A1 A2 A3 : Option Addr) (p1 p2 p3 : Nat) (w : World) (base : Nat) (v : Value) (l : List W), WRow w base v l → EnvF base w → RdS w base t.args A1 → StS w (Lt base) t.body A2 → StS w (Lt base) t.els A3 → l.length + 400 * sizeT t ≤ 900000 →
      Calls Tryz.prog 174 #[v, .agg #[.int .i64 t.op, .string t.name, .slice A1 t.args.length p1, .slice A2 t.body.length p2, .slice A3 t.els.length p3]] w (AddRet base v (l ++ wT t) w)
  | 0, t, ht => by cases ht
  | d + 1, t, ht => fun A1 A2 A3 p1 p2 p3 w base v l hW hE hR hS hS' hl => addStmt_of d (addBlock_of d (addStmt_any d)) t ht A1 A2 A3 p1 p2 p3 w base v l hW hE hR hS hS' hl
theorem addBlock_any (d : Nat) : AddB d := addBlock_of d (addStmt_any d)
/-- Three texts, in a block of their own that was just made. -/
theorem addText_three (base : Nat) (v : Value) (l : List W) (t u x : ByteArray) (z y q : Int) (w : World) (hW : WRow w base v l) (hE : Env base w) (h0 : 0 < t.size) (h1 : 0 < u.size) (h2 : 0 < x.size) (hz : runKind t = z) (hy : runKind u = y) (hq : runKind x = q) (hl : l.length ≤ 999998) :
    Calls Tryz.prog 97 #[v, .slice (some ⟨w.heap.size, 0, none⟩) 3 3] (w.alloc (.cells #[.string t, .string u, .string x] 9)) (AddRet base v (l ++ [(z, t), (y, u), (q, x)]) w) := by
  subst hz
  subst hy
  subst hq
  have hal := (Below.refl w.heap.size w).alloc (Nat.le_refl _) (.cells #[.string t, .string u, .string x] 9)
  have hbs := hE.1
  refine (addTexts_any base w.heap.size 3 v l [t, u, x] _ (hW.below hal) (hE.next (hal.mono hbs)) (hW.free (Nat.le_refl _)) (by rw [World.size_alloc]; omega) (fun k hk => ?_) (fun y hy => by
    rcases List.mem_cons.1 hy with rfl | hy
    · exact h0
    rcases List.mem_cons.1 hy with rfl | hy
    · exact h1
    · simp at hy; subst hy; exact h2) (by simp only [List.length_cons, List.length_nil]; omega)).mono ?_
  · have hk' : k = 0 ∨ k = 1 ∨ k = 2 := by have : k < 3 := hk; omega
    rcases hk' with rfl | rfl | rfl
    · exact alloc_cell w #[.string t, .string u, .string x] 9 (0, 0) 0
    · exact alloc_cell w #[.string t, .string u, .string x] 9 (0, 0) 1
    · exact alloc_cell w #[.string t, .string u, .string x] 9 (0, 0) 2
  · rintro ee w' ⟨v', he, h1, h2⟩
    exact ⟨v', he, h1, (Put.of_below hal hbs).trans h2⟩
set_option maxHeartbeats 1000000 in
/-- A name put behind a list. -/
theorem addName_any (s : ByteArray) (hs : nameB s = true) (w : World) (base : Nat) (v : Value) (l : List W) (hW : WRow w base v l) (hE : Env base w) (hl : l.length ≤ 1000000) :
    Calls Tryz.prog 124 #[v, .string s] w (AddRet base v (l ++ [(1, s)]) w) := by
  have AN := Lib.hid (addText_one base v l s 1 w hW hE (name_pos hs) (runKind_name hs) hl)
  clear hW hE hs
  generalize hgoal : l ++ [(1, s)] = lw at *
  clear hgoal
  go_enter Tryz.func124, Tryz.ntmps124
  go_wp2_with fail
  (with_reducible refine Calls.mono AN.out ?_)
  rintro ee w1 ⟨v1, rfl, hW1, hp1⟩
  have HW1 := Lib.hid (And.intro hW1 hp1)
  clear hW1 hp1
  go_wp2_with fail
  go_ret
  exact ⟨_, rfl, HW1.out.1, HW1.out.2⟩
set_option maxHeartbeats 4000000 in
theorem addNames_any (ps : List ByteArray) (hk : ∀ s ∈ ps, nameB s = true) (A : Option Addr) (cap : Nat) (w : World) (base : Nat) (v : Value) (l : List W) (hW : WRow w base v l) (hE : Env base w) (hR : StrS w (Lt base) ps A) (hp3 : ps.length ≤ 3) (hl : l.length + 7 ≤ 1000000) :
    Calls Tryz.prog 123 #[v, .slice A ps.length cap, .func (.func 124) #[] #[]] w (AddRet base v (l ++ parTo ps ps.length) w) := by
  have HLN := Lib.hid (show ∀ i, i ≤ ps.length → (parTo ps i).length ≤ 6 from fun i hi => by have := parTo_len ps i hi; omega)
  have hbs := hE.1
  have HR := Lib.hid hR
  have HEn := Lib.hid hE
  have HK := Lib.hid hk
  have HW1 := Lib.hid hW
  have HP0 := Lib.hid (Put.of_below (v := v) (Below.refl _ w) hbs)
  clear hk hE hR hW
  go_enter Tryz.func123, Tryz.ntmps123
  go_wp2_with fail
  go_loopw [0, 11] (fun q i wr => ∃ (k : Nat), k ≤ ps.length ∧ i = .int .i64 k ∧ WRow wr base q (l ++ parTo ps k) ∧ Put base v q w wr) (fun _ i _ => ps.length - (intOf i).toNat)
  case atStart => exact ⟨0, Nat.zero_le _, rfl, by rw [parTo_zero, List.append_nil]; exact HW1.out, HP0.out⟩
  case round =>
    obtain ⟨k, hk, rfl, hW, hP⟩ := hrel
    have HW := Lib.hid hW
    have HP := Lib.hid hP
    have hbw := hP.below
    have hbr := Nat.le_trans hbs hbw.size
    have hlk1 := HLN.out k hk
    clear hW hP
    by_cases hlk : k < ps.length
    · obtain ⟨b, o, rfl, hB, d0⟩ := (HR.out.on hbw (Nat.le_refl _)).at_ hlk
      have hnm := HK.out _ (List.getElem_mem hlk)
      have HN1 := fun h0 : k = 0 => (show parTo ps (k + 1) = parTo ps k ++ [(1, ps[k])] by subst h0; rw [parTo_zero, parTo_first hlk]; rfl)
      have HN2 := fun h0 : 0 < k => parTo_next hlk h0
      have hlen : (l ++ parTo ps k).length ≤ l.length + 6 := by rw [List.length_append]; omega
      have AN := fun X v' l' (h1 : WRow X base v' l') (h2 : Below base w X) (h3 : l'.length ≤ 1000000) => Lib.hid (addName_any ps[k] hnm X base v' l' h1 (HEn.out.next h2) h3)
      clear hnm
      generalize ps[k] = pk at *
      generalize parTo ps k = ck at *
      rcases Nat.eq_zero_or_pos k with h0 | h0
      · have HNN := Lib.hid (HN1 h0)
        have hk0 : k ≤ 0 := by omega
        have AN1 := Lib.hid (AN wr _ _ HW.out hbw (by omega)).out
        clear AN HN1 HN2 h0
        go_wp2_with fail
        (with_reducible refine Calls.mono AN1.out ?_)
        rintro ee w3 ⟨v3, rfl, hW4, hP4⟩
        have HW4 := Lib.hid hW4
        have HP4 := Lib.hid (HP.out.trans hP4)
        clear hW4 hP4
        go_wp2_with fail
        go_roundw
        case rel => exact ⟨k + 1, by omega, by go_num, by rw [HNN.out, ← List.append_assoc]; exact HW4.out, HP4.out⟩
        case measure => simp only [intOf]; omega
      · have HNN := Lib.hid (HN2 h0)
        have AS0 := Lib.hid (addText_one base _ _ ⟨#[44]⟩ 3 wr HW.out (HEn.out.next hbw) (by decide) kind_cm (by omega))
        clear HN1 HN2
        go_wp2_with fail
        (with_reducible refine Calls.mono AS0.out ?_)
        rintro ee w3 ⟨v3, rfl, hW4, hP4⟩
        have HW4 := Lib.hid hW4
        have HP4 := Lib.hid (HP.out.trans hP4)
        have AN1 := Lib.hid (AN w3 _ _ hW4 HP4.out.below (by rw [List.length_append]; show _ + 1 ≤ _; omega)).out
        clear hW4 hP4 AN AS0
        go_wp2_with fail
        (with_reducible refine Calls.mono AN1.out ?_)
        rintro ee w5 ⟨v5, rfl, hW6, hP6⟩
        have HW6 := Lib.hid hW6
        have HP6 := Lib.hid (HP4.out.trans hP6)
        clear hW6 hP6
        go_wp2_with fail
        go_roundw
        case rel => exact ⟨k + 1, by omega, by go_num, by rw [HNN.out]; have := HW6.out; simpa [cmS] using this, HP6.out⟩
        case measure => simp only [intOf]; omega
    · obtain rfl : k = ps.length := by omega
      go_wp2_with fail
      go_ret
      exact ⟨_, rfl, HW.out, HP.out⟩
set_option maxHeartbeats 4000000 in
theorem addFn_any (f : Fu) (hf : fnB f = true) (A1 A2 : Option Addr) (p1 p2 : Nat) (w : World) (base : Nat) (v : Value) (l : List W) (hW : WRow w base v l) (hE : EnvF base w) (hR1 : StrS w (Lt base) f.params A1) (hR2 : StS w (Lt base) f.body A2) (hl : l.length + 400 * sizeTL f.body + 20 ≤ 900000) :
    Calls Tryz.prog 77 #[v, .agg #[.string f.name, .slice A1 f.params.length p1, .slice A2 f.body.length p2]] w (AddRet base v (l ++ wF f) w) := by
  obtain ⟨hnm, hp3, hps, hbd⟩ := fn_parts hf
  have HWT := Lib.hid (show l ++ wF f = (((l ++ [(4, ⟨#[102, 110]⟩), (1, f.name), (3, ⟨#[40]⟩)]) ++ parTo f.params f.params.length) ++ [(3, ⟨#[41]⟩)]) ++ blkW f.body by show l ++ ([(4, fnS), (1, f.name), (3, lpS)] ++ (parTo f.params f.params.length ++ ((3, rpS) :: blkW f.body))) = (((l ++ [(4, fnS), (1, f.name), (3, lpS)]) ++ parTo f.params f.params.length) ++ [(3, rpS)]) ++ blkW f.body; simp)
  generalize hgoal : l ++ wF f = lw at *
  clear hgoal
  have HPL := Lib.hid (show (parTo f.params f.params.length).length ≤ 6 by have := parTo_len f.params f.params.length (Nat.le_refl _); omega)
  have hbs := hE.1.1
  have K0 := Lib.hid (BxL.new w [.string f.name, .slice A1 f.params.length p1, .slice A2 f.body.length p2] 70)
  have hlt : w.heap.size < (w.alloc (.cells #[.string f.name, .slice A1 f.params.length p1, .slice A2 f.body.length p2] 70)).heap.size := by rw [World.size_alloc]; omega
  have hb : Below w.heap.size w (w.alloc (.cells #[.string f.name, .slice A1 f.params.length p1, .slice A2 f.body.length p2] 70)) := (Below.refl _ _).alloc (Nat.le_refl _) _
  have e0 : w.alloc (.cells [.string f.name, .slice A1 f.params.length p1, .slice A2 f.body.length p2].toArray 70) = w.alloc (.cells #[.string f.name, .slice A1 f.params.length p1, .slice A2 f.body.length p2] 70) := rfl
  rw [e0] at K0
  clear e0
  have HF2 := Lib.hid (hW.free (Nat.le_refl w.heap.size))
  have HW2 := Lib.hid (hW.below hb)
  have HP2 := Lib.hid (Put.of_below (v := v) hb hbs)
  have HEV := Lib.hid hE
  have AN := fun X v' l' (h1 : WRow X base v' l') (h2 : Below base w X) (h3 : l'.length + 7 ≤ 1000000) => Lib.hid (addNames_any f.params hps A1 p1 X base v' l' h1 (hE.1.next h2) (hR1.on h2 (Nat.le_refl _)) hp3 h3)
  have EB := fun X v' l' (h1 : WRow X base v' l') (h2 : Below base w X) (h3 : l'.length + 400 * sizeTL f.body + 2 ≤ 900000) => Lib.hid (addBlock_any 4 f.body hbd A2 p2 X base v' l' h1 (hE.next h2) (hR2.on h2 (Nat.le_refl _)) h3)
  have hnp := name_pos hnm
  have hnk := runKind_name hnm
  clear hE hR1 hR2 hW hf hps hbd hnm
  obtain ⟨nm, ps, bd⟩ := f
  dsimp only at *
  generalize blkW bd = wb at *
  generalize parTo ps ps.length = wp at *
  generalize sizeTL bd = sb at *
  go_enter Tryz.func77, Tryz.ntmps77
  go_upto_region 1 with (fail)
  generalize w.alloc (.cells #[.string nm, .slice A1 ps.length p1, .slice A2 bd.length p2] 70) = w2 at *
  have k0 := K0.out 0 _ rfl
  have AS2 := Lib.hid (addText_three base v l ⟨#[102, 110]⟩ nm ⟨#[40]⟩ 4 1 3 w2 HW2.out (HEV.out.1.next HP2.out.below) (by decide) hnp (by decide) kind_fn hnk kind_lp (by omega))
  go_wp2_with fail
  (with_reducible refine Calls.mono AS2.out ?_)
  rintro ee w3 ⟨v3, rfl, hW3, hp3'⟩
  have K3 := Lib.hid (K0.out.put hp3' hlt HF2.out)
  have HF3 := Lib.hid (hp3'.ne hlt HF2.out)
  have hlt3 := Nat.lt_of_lt_of_le hlt hp3'.below.size
  have HP3 := Lib.hid (HP2.out.trans hp3')
  have HW3 := Lib.hid hW3
  clear hW3 hp3' AS2 K0 HF2 hlt HP2 HW2 k0 hb
  have k1 := K3.out 1 _ rfl
  have AN3 := Lib.hid (AN w3 v3 _ HW3.out HP3.out.below (by simp only [List.length_append, List.length_cons, List.length_nil]; omega)).out
  go_wp2_with fail
  (with_reducible refine Calls.mono AN3.out ?_)
  rintro ee w4 ⟨v4, rfl, hW4, hp4⟩
  have K4 := Lib.hid (K3.out.put hp4 hlt3 HF3.out)
  have HF4 := Lib.hid (hp4.ne hlt3 HF3.out)
  have hlt4 := Nat.lt_of_lt_of_le hlt3 hp4.below.size
  have HP4 := Lib.hid (HP3.out.trans hp4)
  have HW4 := Lib.hid hW4
  clear hW4 hp4 AN AN3 K3 HF3 hlt3 HP3 HW3 k1
  have k2 := K4.out 2 _ rfl
  have hbz : base ≤ w4.heap.size := Nat.le_trans hbs (HP4.out.below.mono (Nat.le_refl _)).size
  have hEx : Env base w4.drew := HEV.out.1.next HP4.out.below.drew
  have hlen : ((l ++ ([(4, ⟨#[102, 110]⟩), (1, nm), (3, ⟨#[40]⟩)] : List W)) ++ wp).length + 1 + 400 * sb + 2 ≤ 900000 := by have h1 := HPL.out; simp only [List.length_append, List.length_cons, List.length_nil]; omega
  have AE := Lib.hid (show Calls Tryz.prog 97 #[v4, .slice (some ⟨w4.heap.size, 0, none⟩) 1 1] (w4.alloc (.cells #[.string ⟨#[41]⟩] 9)).drew (AddRet base v4 ((l ++ [(4, ⟨#[102, 110]⟩), (1, nm), (3, ⟨#[40]⟩)]) ++ wp ++ [(3, ⟨#[41]⟩)]) w4.drew) from addText_one base v4 _ ⟨#[41]⟩ 3 w4.drew HW4.out hEx (by decide) kind_rp (by omega))
  have x4 : (w4.alloc (.cells #[.string ⟨#[41]⟩] 9)).cell? ⟨w.heap.size, 2, none⟩ = some (.slice A2 bd.length p2) := (((Below.refl w4.heap.size w4).alloc (Nat.le_refl _) (.cells #[.string ⟨#[41]⟩] 9)).cell (p := ⟨w.heap.size, 2, none⟩) hlt4).trans k2
  have HKX := Lib.hid (show ∀ w' v', Put base v4 v' w4.drew w' → w'.cell? ⟨w.heap.size, 2, none⟩ = some (.slice A2 bd.length p2) from fun w' v' hp => (hp.cell (k := w.heap.size) (o := 2) hlt4 HF4.out).trans k2)
  have EX := fun w1 v1 (h0 : WRow w1 base v1 ((l ++ [(4, ⟨#[102, 110]⟩), (1, nm), (3, ⟨#[40]⟩)]) ++ wp ++ [(3, ⟨#[41]⟩)])) (h1 : Below base w w1) => Lib.hid (EB w1 v1 _ h0 h1 (by rw [List.length_append]; show _ + 1 + _ + 2 ≤ _; omega)).out
  have HBD := Lib.hid (show Below base w w4.drew from HP4.out.below.drew)
  clear hEx EB HEV
  go_wp2_with fail
  go_region_with (first
    | (go_at_call 97; (with_reducible refine Calls.mono AE.out ?_); rintro ee wx ⟨vx, rfl, hWb, hpb⟩; have m4 := HKX.out _ _ hpb)
    | (go_at_call 125; (with_reducible refine Calls.mono (EX wx vx hWb (HBD.out.trans hpb.below)).out ?_); rintro ee wc ⟨vc, rfl, hWc, hpc⟩; have HWC := Lib.hid hWc; have HQ := Lib.hid (hpb.trans hpc)))
  all_goals
    clear hWc hpc hWb hpb
    go_wp2_with fail
    go_ret
    exact ⟨_, rfl, by rw [HWT.out]; exact HWC.out, (HP4.out.trans (Put.of_below (Below.refl _ _).drew hbz)).trans HQ.out⟩
set_option maxHeartbeats 4000000 in
theorem implProgramText_any (p : List Fu) (hbk : bulkFL p ≤ 1048576) (v : Value) (w : World) (hV : PrV w (Lt w.heap.size) p v) (T : Tabs w) (N : NTabs w) (G : Sgn w) (F : Fms w) :
    Calls Tryz.prog 34 #[v] w (TextRet (textP p) w) := by
  have CV := fun W (h : Below w.heap.size w W) => implProgramValid_any p hbk v W (hV.on h h.size) (T.below h) (G.below h) (F.below h)
  obtain ⟨A, c, rfl, hR⟩ := hV
  have hb0 := (Below.refl w.heap.size w).alloc (Nat.le_refl _) (.cells #[.slice A p.length c] 43)
  have c0 : (w.alloc (.cells #[.slice A p.length c] 43)).cell? ⟨w.heap.size, 0, none⟩ = some (.slice A p.length c) := alloc_cell w _ _ (0, 0) 0
  have hlt : w.heap.size < (w.alloc (.cells #[.slice A p.length c] 43)).heap.size := by rw [World.size_alloc]; omega
  have CV1 := CV _ hb0
  clear CV
  cases hv : progB p
  · rw [hv] at CV1
    have HT := Lib.hid (show textP p = (⟨#[]⟩, false) by unfold textP; rw [hv]; rfl)
    replace CV1 := Lib.hid CV1
    clear hv hR T N G F
    go_enter Tryz.func34, Tryz.ntmps34
    go_wp2_with fail
    (with_reducible refine Calls.mono CV1.out ?_)
    rintro ee w1 ⟨rfl, hb1⟩
    have hb2 := hb0.trans (hb1.mono (Nat.le_of_lt hlt))
    go_wp2_with fail
    go_ret2
    exact ⟨by rw [HT.out]; rfl, hb2⟩
  · rw [hv] at CV1
    obtain ⟨hl, hf, hc⟩ := prog_parts hv
    have HT := Lib.hid (show textP p = joinF (wP p) by unfold textP; rw [hv]; rfl)
    have HEV := Lib.hid (show ∀ W, Below w.heap.size w W → EnvF w.heap.size W from fun W h => ⟨⟨h.size, fun W' h' => ⟨G.below (h.trans h'), (N.below (h.trans h')).pow, T.below (h.trans h')⟩⟩, fun W' h' => F.below (h.trans h')⟩)
    have HTN := Lib.hid (show ∀ W, Below w.heap.size w W → Tabs W ∧ NTabs W from fun W h => ⟨T.below h, N.below h⟩)
    have HVW := Lib.hid (wP_valid hf)
    have HLW := Lib.hid (show ∀ k, (wP (p.take k)).length ≤ 12 * 4 + 400 * countP (p.take k) from fun k => by
      have h1 := wP_len (p := p.take k) fun f hf' => hf f (List.mem_of_mem_take hf')
      have h2 : (p.take k).length ≤ p.length := by rw [List.length_take]; omega
      omega)
    have HCT := Lib.hid (show ∀ k, (h : k < p.length) → countP (p.take k) + sizeTL p[k].body ≤ 40 from fun k h => by have h1 := countP_take h; have h2 := countP_take_le p (k + 1); omega)
    have HCK := Lib.hid (show ∀ k, countP (p.take k) ≤ 40 from fun k => Nat.le_trans (countP_take_le p k) hc)
    have HFN := Lib.hid (fun k (h : k < p.length) => addFn_any p[k] (hf _ (List.getElem_mem h)))
    have HNX := Lib.hid (show ∀ k, (h : k < p.length) → wP (p.take (k + 1)) = wP (p.take k) ++ wF p[k] from fun k h => wP_take h)
    have HR := Lib.hid hR
    replace CV1 := Lib.hid CV1
    have hpl : p.length ≤ 4 := hl.2
    clear hv hR T N G F hl hf hc
    go_enter Tryz.func34, Tryz.ntmps34
    go_wp2_with fail
    (with_reducible refine Calls.mono CV1.out ?_)
    rintro ee w1 ⟨rfl, hb1⟩
    have hb2 := hb0.trans (hb1.mono (Nat.le_of_lt hlt))
    have x0 := (hb1.cell (p := ⟨w.heap.size, 0, none⟩) hlt).trans c0
    have HB2 := Lib.hid hb2
    clear CV1 hb0 hb1 c0 hlt hb2
    go_wp2_with fail
    go_loopw [4, 13] (fun q i wr => ∃ k : Nat, k ≤ p.length ∧ i = .int .i64 k ∧ WRow wr w.heap.size q (wP (p.take k)) ∧ Put w.heap.size (.slice none 0 0) q w1 wr) (fun _ i _ => p.length - (intOf i).toNat)
    case atStart => exact ⟨0, Nat.zero_le _, rfl, WRow.nil _ _, Put.of_below (Below.refl _ _) HB2.out.size⟩
    case round =>
      obtain ⟨k, hk, rfl, hWr, hP⟩ := hrel
      have HWr := Lib.hid hWr
      have HP := Lib.hid hP
      have hbw := HB2.out.trans hP.below
      have hlw := HLW.out k
      have hck := HCK.out k
      clear hWr hP
      by_cases hlk : k < p.length
      · obtain ⟨b, o, rfl, hB, d0, ⟨A1, p1, d1, r1⟩, A2, p2, d2, r2⟩ := (HR.out.on hbw (Nat.le_refl _)).at_ hlk
        have hst := HCT.out k hlk
        have HNk := Lib.hid (HNX.out k hlk)
        have CV := fun X v' l' (h1 : WRow X w.heap.size v' l') (h2 : Below w.heap.size w X) (h3 : Below w.heap.size wr X) (h4 : l'.length + 400 * sizeTL p[k].body + 20 ≤ 900000) => HFN.out k hlk A1 A2 p1 p2 X w.heap.size v' l' h1 (HEV.out X h2) (r1.on h3 (Nat.le_refl _)) (r2.on h3 (Nat.le_refl _)) h4
        clear r1 r2
        generalize hkd : p[k] = kid at *
        clear hkd
        generalize wF kid = wk at *
        obtain ⟨nm, ps, bd⟩ := kid
        dsimp only at d0 d1 d2 CV hst
        generalize sizeTL bd = sk at *
        generalize countP (p.take k) = st at *
        generalize wP (p.take k) = wl at *
        have hal := (Below.refl wr.heap.size wr).alloc (Nat.le_refl _) (.cells #[.string nm, .slice A1 ps.length p1, .slice A2 bd.length p2] 70)
        have x1 : (wr.alloc (.cells #[.string nm, .slice A1 ps.length p1, .slice A2 bd.length p2] 70)).cell? ⟨wr.heap.size, 0, none⟩ = some (.string nm) := alloc_cell wr _ _ (0, 0) 0
        have x2 : (wr.alloc (.cells #[.string nm, .slice A1 ps.length p1, .slice A2 bd.length p2] 70)).cell? ⟨wr.heap.size, 1, none⟩ = some (.slice A1 ps.length p1) := alloc_cell wr _ _ (0, 0) 1
        have x3 : (wr.alloc (.cells #[.string nm, .slice A1 ps.length p1, .slice A2 bd.length p2] 70)).cell? ⟨wr.heap.size, 2, none⟩ = some (.slice A2 bd.length p2) := alloc_cell wr _ _ (0, 0) 2
        have hbr := hbw.size
        have HWA := Lib.hid (HWr.out.below hal)
        have HPA := Lib.hid (HP.out.trans (Put.of_below hal hbr))
        have hbwa := hbw.trans (hal.mono hbr)
        have CV1 := Lib.hid (CV _ _ _ HWA.out hbwa (hal.mono hbr) (by omega))
        clear CV x0
        go_wp2_with fail
        (with_reducible refine Calls.mono CV1.out ?_)
        rintro ee w3 ⟨v3, rfl, hW3, hp3⟩
        have HW3 := Lib.hid hW3
        have HP3 := Lib.hid (HPA.out.trans hp3)
        clear hW3 hp3 x1 x2 x3 d0 d1 d2 CV1
        go_wp2_with fail
        go_roundw
        case rel => exact ⟨k + 1, by omega, by go_num, by rw [HNk.out]; exact HW3.out, HP3.out⟩
        case measure => simp only [intOf]; omega
      · obtain rfl : k = p.length := by omega
        rw [List.take_length] at HWr hlw hck
        obtain ⟨A3, cap3, rfl⟩ := HWr.out.slice
        have JW := Lib.hid (implJoinWords_any A3 (wP p) cap3 wr HWr.out.words (fun x hx => by have h := HVW.out x hx; have := validB_size h; omega) (by omega) (HTN.out _ hbw).1 (HTN.out _ hbw).2)
        generalize wP p = we at *
        clear x0
        go_wp2_with fail
        (with_reducible refine Calls.mono JW.out ?_)
        rintro ee w5 ⟨rfl, hb5⟩
        have hb6 := hbw.trans (hb5.mono hbw.size)
        go_wp2_with fail
        go_ret2
        exact ⟨by rw [HT.out]; rfl, hb6⟩
end Go.Proofs.YtljdbjfbcjigaaaGreatDoor
