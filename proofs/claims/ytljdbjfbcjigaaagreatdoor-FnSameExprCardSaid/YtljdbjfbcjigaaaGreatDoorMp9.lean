/-
  Plain mathematics: words one behind the other, with a blank only between two that are no signs, are cut into the same words.
-/
import Derived.Test.YtljdbjfbcjigaaaGreatDoorMg25
import Derived.Test.YtljdbjfbcjigaaaGreatDoorMg34
import Derived.Test.YtljdbjfbcjigaaaGreatDoorMg7
import Derived.Test.YtljdbjfbcjigaaaGreatDoorMp1
import Derived.Test.YtljdbjfbcjigaaaGreatDoorMp6
import Derived.Test.YtljdbjfbcjigaaaGreatDoorMp8
import Derived.Test.YtljdbjfbcjigaaaGreatDoorRows
import Derived.ShapedOpen
import Derived.JoinedOf
import Derived.Test.YtljdbjfbcjigaaaGreatDoorCards
import Derived.Test.YtljdbjfbcjigaaaGreatDoorTie
import Derived.SevenTiedAt
namespace Go.Proofs.YtljdbjfbcjigaaaGreatDoor
open Go.RowKit
set_option maxRecDepth 100000

theorem eqB_symm (a b : E) : eqB b a = eqB a b := by
  by_cases h : a = b
  · rw [h]
  · rw [eqB_no h, eqB_no fun e => h e.symm]
theorem texts_same {a b : E} (ha : (textF a).2 = true) (hb : (textF b).2 = true) : ((textF a).1.toList == (textF b).1.toList) = eqB a b := by
  have va : validE a = true := by
    cases h : validE a with
    | true => rfl
    | false => rw [textF_no h] at ha; cases ha
  have vb : validE b = true := by
    cases h : validE b with
    | true => rfl
    | false => rw [textF_no h] at hb; cases hb
  rw [textF_yes va, textF_yes vb]
  by_cases h : a = b
  · subst h
    rw [eqB_yes]
    simp
  · rw [eqB_no h]
    exact str_eq_false fun e => h (text_inj va vb e)
set_option maxHeartbeats 8000000 in
theorem fnSameExpr_walk (Ac : Option Addr) (l : List UInt8) (cap : Nat) (w : World) (h : Bytes w w.heap.size Ac l) (hn : l.length ≤ cap) (hcap : cap ≤ 9223372036854775807) (T : Tabs w) (N : NTabs w) (G : Sgn w) :
    Calls Tryz.prog 5 #[.slice Ac l.length cap] w fun ee w' => ee = .returned (.bool true) ∧ Below w.heap.size w w' := by
  by_cases hbig : 1048576 < l.length
  · have hbig' : (1048576 : Int) < l.length := by omega
    clear h T N G
    go_enter Tryz.func5, Tryz.ntmps5
    go_wp2_with fail
    go_ret
    exact ⟨rfl, Below.refl _ _⟩
  have hbig' : ¬ (1048576 : Int) < l.length := by omega
  have DR := Lib.hid (drawSameExpr_any Ac l cap w h hn hcap)
  have TNG := Lib.hid (show ∀ W, Below w.heap.size w W → Tabs W ∧ NTabs W ∧ Sgn W from fun W h => ⟨T.below h, N.below h, G.below h⟩)
  clear h T N G hbig
  go_enter Tryz.func5, Tryz.ntmps5
  go_wp2_with fail
  refine Calls.mono DR.out ?_
  rintro ee w1 ⟨a, b, A, B, c, d, rfl, hp1, hq1, hba, hbb, hb1⟩
  unfold exV
  obtain ⟨u, v, hlt, hal⟩ := two4 w1 (.int .i64 a.op) (.int .i64 a.n) (.string a.name) (.slice A a.kids.length c) (.int .i64 b.op) (.int .i64 b.n) (.string b.name) (.slice B b.kids.length d) 28 28
  have U2 := Lib.hid u
  have V2 := Lib.hid v
  have HB2 := Lib.hid (hb1.trans (hal.mono hb1.size))
  have HP2 := Lib.hid (PdS.later hp1 hal (Nat.le_refl _) hal.size)
  have HQ2 := Lib.hid (PdS.later hq1 hal (Nat.le_refl _) hal.size)
  clear hb1 hp1 hq1 DR hal u v
  go_wp2_with fail
  generalize (w1.alloc (.cells #[.int .i64 a.op, .int .i64 a.n, .string a.name, .slice A a.kids.length c] 28)).alloc (.cells #[.int .i64 b.op, .int .i64 b.n, .string b.name, .slice B b.kids.length d] 28) = w2 at *
  have RA := fun W (h : Below w2.heap.size w2 W) => (HP2.out.later h (Nat.zero_le _) h.size)
  have RB := fun W (h : Below w2.heap.size w2 W) => (HQ2.out.later h (Nat.zero_le _) h.size)
  have TG := fun W (h : Below w2.heap.size w2 W) => TNG.out W (HB2.out.trans (h.mono HB2.out.size))
  have SAB := fun W h => implSame_walk a b A c B d W (RA W h) (RB W h) (by omega) (by omega)
  have SBA := fun W h => implSame_walk b a B d A c W (RB W h) (RA W h) (by omega) (by omega)
  have SAA := fun W h => implSame_walk a a A c A c W (RA W h) (RA W h) (by omega) (by omega)
  have PAB := fun W h => specSameExpr_any a b A c B d W (RA W h).between_rd (RB W h).between_rd (by omega) (by omega)
  have XA := fun W h => implExprText_any a A c W (RA W h).between_rd (by omega) (TG W h).1 (TG W h).2.1 (TG W h).2.2
  have XB := fun W h => implExprText_any b B d W (RB W h).between_rd (by omega) (TG W h).1 (TG W h).2.1 (TG W h).2.2
  have YA := fun W h => specExprText_any a A c W (RA W h).between_rd (by omega)
  have HZ := @texts_same a b
  rw [eqB_symm] at SBA
  rw [eqB_yes] at SAA
  unfold exV at SAB SBA SAA PAB XA XB YA
  generalize textF a = p at *
  generalize textF b = q at *
  generalize eqB a b = z at *
  obtain ⟨p, one⟩ := p
  obtain ⟨q, two⟩ := q
  dsimp only at HZ
  replace SAB := fun W h => Lib.hid (SAB W h)
  replace SBA := fun W h => Lib.hid (SBA W h)
  replace SAA := fun W h => Lib.hid (SAA W h)
  replace PAB := fun W h => Lib.hid (PAB W h)
  replace XA := fun W h => Lib.hid (XA W h)
  replace XB := fun W h => Lib.hid (XB W h)
  replace YA := fun W h => Lib.hid (YA W h)
  replace HZ := Lib.hid HZ
  clear RA RB TG TNG HP2 HQ2 hba hbb
  have z1 : (z != z) = false := by simp
  have p1 : (p.toList == p.toList) = true := by simp
  have o1 : (one != one) = false := by simp
  have hlt0 : w1.heap.size < w2.heap.size := by omega
  (with_reducible refine Calls.mono (SAB w2 (Below.refl _ _)).out ?_)
  rintro ee w3 ⟨rfl, hb3⟩
  obtain ⟨x0, x1, x2, x3⟩ := U2.out.below hb3 hlt0
  obtain ⟨y0, y1, y2, y3⟩ := V2.out.below hb3 hlt
  have PAB3 := Lib.hid (PAB w3 hb3).out
  clear SAB PAB
  go_wp2_with fail
  (with_reducible refine Calls.mono PAB3.out ?_)
  rintro ee w4 ⟨rfl, hb34⟩
  have hb4 := hb3.trans (hb34.mono hb3.size)
  clear x0 x1 x2 x3 y0 y1 y2 y3 PAB3 hb3 hb34
  obtain ⟨x0, x1, x2, x3⟩ := U2.out.below hb4 hlt0
  obtain ⟨y0, y1, y2, y3⟩ := V2.out.below hb4 hlt
  have SBA4 := Lib.hid (SBA w4 hb4).out
  clear SBA
  go_wp2_with fail
  (with_reducible refine Calls.mono SBA4.out ?_)
  rintro ee w5 ⟨rfl, hb45⟩
  have hb5 := hb4.trans (hb45.mono hb4.size)
  clear x0 x1 x2 x3 y0 y1 y2 y3 SBA4 hb4 hb45
  obtain ⟨x0, x1, x2, x3⟩ := U2.out.below hb5 hlt0
  have SAA5 := Lib.hid (SAA w5 hb5).out
  clear SAA
  go_wp2_with fail
  (with_reducible refine Calls.mono SAA5.out ?_)
  rintro ee w6 ⟨rfl, hb56⟩
  have hb6 := hb5.trans (hb56.mono hb5.size)
  clear x0 x1 x2 x3 SAA5 hb5 hb56
  obtain ⟨x0, x1, x2, x3⟩ := U2.out.below hb6 hlt0
  have XA6 := Lib.hid (XA w6 hb6).out
  clear XA
  go_wp2_with fail
  (with_reducible refine Calls.mono XA6.out ?_)
  rintro ee w7 ⟨rfl, hb67⟩
  have hb7 := hb6.trans (hb67.mono hb6.size)
  clear x0 x1 x2 x3 XA6 hb6 hb67
  obtain ⟨y0, y1, y2, y3⟩ := V2.out.below hb7 hlt
  have XB7 := Lib.hid (XB w7 hb7).out
  clear XB
  go_wp2_with fail
  (with_reducible refine Calls.mono XB7.out ?_)
  rintro ee w8 ⟨rfl, hb78⟩
  have hb8 := hb7.trans (hb78.mono hb7.size)
  clear y0 y1 y2 y3 XB7 hb7 hb78
  obtain ⟨x0, x1, x2, x3⟩ := U2.out.below hb8 hlt0
  have YA8 := Lib.hid (YA w8 hb8).out
  clear YA
  go_wp2_with fail
  (with_reducible refine Calls.mono YA8.out ?_)
  rintro ee w9 ⟨rfl, hb89⟩
  have hb9 := HB2.out.trans ((hb8.trans (hb89.mono hb8.size)).mono HB2.out.size)
  clear x0 x1 x2 x3 YA8 hb8 hb89 U2 V2 HB2
  cases one
  · go_wp2_with fail
    go_ret
    exact ⟨rfl, hb9⟩
  · cases two
    · go_wp2_with fail
      go_ret
      exact ⟨rfl, hb9⟩
    · have hz := HZ.out rfl rfl
      have zz : (z == z) = true := by simp
      clear HZ
      go_wp2_with fail
      go_ret
      exact ⟨rfl, hb9⟩
end Go.Proofs.YtljdbjfbcjigaaaGreatDoor

namespace Go.Proofs.YtljdbjfbcjigaaaGreatDoor
open Go.ChangeShapes Go.WideShapes Go.ChangeAt Go.RowKit Go.WideMaps
open Go.ChangeMaps (open_string)
set_option maxRecDepth 100000

namespace ExSameLaw
theorem plain : (Rows.fnSameExprRow.laid.all fun x => x.2.handleName?.isNone) = true := by kernel_rfl
/-- The door's own heap meets the condition: three closed facts. -/
theorem door_met (os : Os) (args : Array Value) : laidMetH Tryz.prog Rows.fnSameExprRow.laid ((World.doorLaid Tryz.prog 400 os).forCall (fun _ _ => 0) ⟨#[], args, []⟩).memory :=
  laidMetH_of_parts3 (fuel := 8) (laidMet_of_run' 8 (by kernel_rfl) (by kernel_rfl)) (by kernel_rfl) (by kernel_rfl)
theorem lifted (os : Os) (started : os.Started) (H : Type) (enc : TypeId × Value → H) :
    ReturnsInHanded {} Tryz.checked os 5 .any (fun w args => (Rows.fnSameExprSpec.pre enc Tryz.prog Tryz.f5 [] false w args ∧ laidMetH Tryz.prog Rows.fnSameExprRow.laid w) ∧ sizedMet enc Tryz.prog Tryz.f5 (OpenSpec.ofChange Rows.fnSameExprSpec) false w args)
      (Rows.fnSameExprSpec.post enc Tryz.prog Tryz.f5 false true false false) := by
  refine returnsInHanded_of_change_and (C := Tryz.checked) (X := fun w _ => laidMetH Tryz.prog Rows.fnSameExprRow.laid w) (fun _ _ _ hh h => h.of_heap hh) ownNone started (by kernel_rfl) Tryz.func5
    (ChangeSpec.witness_shaped (enc := enc) (C := Tryz.checked) (os := os) (X := fun w _ => laidMetH Tryz.prog Rows.fnSameExprRow.laid w) false (World.doorLaid Tryz.prog 400 os) #[.slice none 0 0] 8 rfl (World.shaped_of_RefB (by kernel_rfl) (by kernel_rfl)) (by kernel_rfl) (by kernel_rfl) (by kernel_rfl) (door_met os _)) ?_
  intro W base args ds gs before hval0 hW _ hsz hL0 _
  have hval : ∀ (j : Nat) t v, Tryz.f5.params[j]? = some t → args[j]? = some v → Value.okWide Tryz.prog W .any base t v := hval0
  have hL : laidMet Tryz.prog Rows.fnSameExprRow.laid W := by rw [← MakeChecks.laidMetH_plain _ _ _ plain]; exact hL0
  have hWhole := hW
  obtain ⟨p, q, hA0, hV, rfl, hfz, hnd⟩ := hW
  have hA : DataW.TrodAll enc Tryz.prog W 0 (fun _ => true) true Tryz.f5.params.toList args.toList ds p := hA0
  rw [Tryz.params5] at hA hval
  clear hA0 hval0 hL0
  obtain ⟨v0, d0, rfl, rfl, h0⟩ := trodAll_one hA
  obtain ⟨A, l, cap, rfl, hB, hn, hcap⟩ := open_byteS Tryz.underlying50 Tryz.underlying5 (by kernel_rfl) (hval 0 50 v0 rfl rfl) h0
  have N : NTabs W := ntabs_of_laid hL (by simp [Rows.fnSameExprRow]) (by simp [Rows.fnSameExprRow]) (by simp [Rows.fnSameExprRow]) (by simp [Rows.fnSameExprRow])
  have T : Tabs W := tabs_of_laid hL (by simp [Rows.fnSameExprRow]) (by simp [Rows.fnSameExprRow])
  have G : Sgn W := sgn_of_laid hL (by simp [Rows.fnSameExprRow])
  obtain ⟨g1, g2, g3, rfl⟩ : ∃ g1 g2 g3, gs = [g1, g2, g3] := vars_three hV
  refine (fnSameExpr_walk A l cap W hB hn hcap T N G).mono fun e W' ⟨he, hb⟩ => ⟨_, he, ?_⟩
  exact law_post laidOut (by kernel_rfl) (by kernel_rfl) (by kernel_rfl) Tryz.underlying4 rfl hWhole hb
end ExSameLaw
end Go.Proofs.YtljdbjfbcjigaaaGreatDoor

namespace Go.Proofs.YtljdbjfbcjigaaaGreatDoor
open Go.ChangeShapes Go.WideShapes Go.ChangeAt Go.RowKit Go.WideMaps
open Go.ChangeMaps (open_string)
set_option maxRecDepth 100000

namespace ExSameLaw
theorem k_inst : (Tryz.f5).isInstance Tryz.pinned.checked.prog Rows.fnSameExprRow.origin Rows.fnSameExprRow.targs := of_decide_eq_true (by kernel_rfl)
theorem k_inp : (Rows.fnSameExprRow.inPlace == Tryz.prog.inPlace 5) = true := by kernel_rfl
theorem k_unf : (Rows.fnSameExprRow.unfollowed == Tryz.prog.unfollowed 5) = true := by kernel_rfl
theorem k_rec : (Rows.fnSameExprRow.recurses == Tryz.prog.recurses 5) = true := by kernel_rfl
theorem k_var : (Rows.fnSameExprRow.named == Tryz.prog.varsNamed 5) = true := by kernel_rfl
theorem k_may : Tryz.prog.mayEnter = true := by kernel_rfl
theorem k_lift : (Rows.fnSameExprRow.lifted == Tryz.prog.liftsFinal) = true := by kernel_rfl
theorem k_laid : laidOutB Tryz.prog = true := by kernel_rfl
theorem k_maps : mapsRowed Tryz.prog = true := by kernel_rfl
theorem k_heard : Tryz.prog.stopsHeard = true := by kernel_rfl
theorem k_named : namedTie Tryz.prog Rows.fnSameExprRow.named Rows.fnSameExprSpec.vars = true := by kernel_rfl
theorem k_closed : joinedFacts Tryz.prog 5 Tryz.f5 Rows.fnSameExprSpec Rows.fnSameExprRow = true := by
  unfold joinedFacts
  rw [k_laid, k_maps, k_named, k_inp, k_unf, k_rec, k_var, k_may, k_lift, k_heard]
  kernel_rfl
theorem row_holds : Rows.FnSameExprSaid :=
  OpenClaim.holds_of_wide 5 Tryz.f5 rfl rfl rfl rfl rfl rfl rfl ⟨rfl, rfl, rfl, rfl, rfl⟩ rfl rfl rfl rfl rfl (by kernel_rfl) Tryz.func5 k_closed
    k_inst (by unfold Func.isWrapper; first | (rw [if_pos (by decide +kernel)]; kernel_rfl) | (rw [if_neg (by decide +kernel)]; exact ⟨rfl, rfl⟩))
    (fun os started H enc _ => lifted os started H enc)
theorem holds : Rows.FnSameExprCardSaid :=
  Claim7.holds_tied_plain_at .later [] Rows.fnSameExprCard.laidKinds true Rows.fnSameExprCard.stood.harness Rows.fnSameExprCard.stood.looks
    row_holds (fun _ h => by cases h) (by kernel_rfl) (fun _ h => by cases h) fnSameExpr_row_tie rfl ⟨rfl, rfl⟩ (by kernel_rfl) rfl
    (fun f fn hf hfn => by
      obtain rfl : f = 5 := Option.some.inj ((show Tryz.prog.funcNamed Rows.fnSameExprRow.func = some 5 by kernel_rfl).symm.trans hf) |>.symm
      obtain rfl : fn = Tryz.f5 := (Option.some.inj (Tryz.func5.symm.trans hfn)).symm
      exact ⟨by kernel_rfl, fun j t ht => by
        have hall : (Tryz.f5.params.toList.all fun u => !Tryz.prog.wantsStandIn u) = true := by kernel_rfl
        exact (show Tryz.prog.wantsStandIn t = false by simpa using List.all_eq_true.1 hall t (by simpa using Array.mem_of_getElem? ht))⟩)
    (by kernel_rfl)
#print axioms holds
end ExSameLaw
end Go.Proofs.YtljdbjfbcjigaaaGreatDoor

namespace Go.Proofs.YtljdbjfbcjigaaaGreatDoor
open Go.RowKit

/-- The class of the bytes of a valid word. -/
def clsW (z : Int) : Int := if z = 4 then 1 else z
open Classical in
theorem valid_parts {z : Int} {t : ByteArray} (h : validB z t = true) :
    ∃ b r, t.data.toList = b :: r ∧ clsW z ≠ 4 ∧ clsW z ≠ 0 ∧ cls b.toNat = clsW z ∧ (r = [] ∨ (clsW z < 3 ∧ ∀ x ∈ r, cls x.toNat = clsW z)) ∧ wordKind t (clsW z) = z := by
  have hv := h
  have nokey : ∀ {b : UInt8} {r : List UInt8}, t.data.toList = b :: r → cls b.toNat ≠ 1 → isKeyB t = false := by
    intro b r ht hb
    rw [Bool.eq_false_iff]
    intro hk
    obtain ⟨h0, hc⟩ := key_letter hk
    obtain ⟨b', r', ht', hg⟩ := nonempty_cons h0
    rw [ht] at ht'
    injection ht' with e1 e2
    rw [hg h0, ← e1] at hc
    exact hb hc
  unfold validB at h
  split at h
  · subst_vars
    unfold nameB at h
    simp only [Bool.and_eq_true, decide_eq_true_eq, Bool.not_eq_true'] at h
    obtain ⟨⟨ha, _⟩, hk⟩ := h
    unfold allB at ha
    replace ha := of_decide_eq_true ha
    obtain ⟨b, r, ht, hg⟩ := nonempty_cons ha.1
    have hall : ∀ x ∈ t.data.toList, cls x.toNat = 1 := by
      intro x hx
      obtain ⟨j, hj, rfl⟩ := mem_iff_get.1 hx
      exact ha.2 j hj hj
    rw [ht] at hall
    exact ⟨b, r, ht, by decide, by decide, hall b (List.mem_cons_self ..), .inr ⟨by decide, fun x hx => hall x (List.mem_cons_of_mem _ hx)⟩, by unfold wordKind; rw [hk]; rfl⟩
  · split at h
    · subst_vars
      rw [decide_eq_true_eq] at h
      unfold numB at h
      split at h
      · rename_i hc
        have hcan := hc.1
        unfold canon at hcan
        simp only [Bool.and_eq_true] at hcan
        have hall : ∀ x ∈ t.data.toList, cls x.toNat = 2 := fun x hx => isDig_cls (List.all_eq_true.1 hcan.1.2 x hx)
        have h0 : 0 < t.size := by
          rw [← len_list]
          cases hd : t.data.toList with
          | nil => rw [hd] at hcan; simp at hcan
          | cons _ _ => simp
        obtain ⟨b, r, ht, hg⟩ := nonempty_cons h0
        rw [ht] at hall
        have hb := hall b (List.mem_cons_self ..)
        exact ⟨b, r, ht, by decide, by decide, hb, .inr ⟨by decide, fun x hx => hall x (List.mem_cons_of_mem _ hx)⟩, by unfold wordKind; rw [nokey ht (by omega)]; rfl⟩
      · omega
    · split at h
      · subst_vars
        unfold signB at h
        split at h
        · rename_i h1
          rw [beq_iff_eq] at h
          obtain ⟨b, r, ht, hg⟩ := nonempty_cons (t := t) (by omega)
          rw [hg] at h
          have hr : r = [] := by
            have := len_list t
            rw [ht, List.length_cons] at this
            exact List.eq_nil_of_length_eq_zero (by omega)
          exact ⟨b, r, ht, by decide, by decide, h, .inl hr, by unfold wordKind; rw [nokey ht (by omega)]; rfl⟩
        · cases h
      · split at h
        · subst_vars
          obtain ⟨h0, _⟩ := key_letter h
          obtain ⟨b, r, ht, hg⟩ := nonempty_cons h0
          have hall : ∀ x ∈ t.data.toList, cls x.toNat = 1 := by
            obtain ⟨k, hk, rfl⟩ := (isKeyB_iff t).1 h
            exact key_letters k hk
          rw [ht] at hall
          exact ⟨b, r, ht, by decide, by decide, hall b (List.mem_cons_self ..), .inr ⟨by decide, fun x hx => hall x (List.mem_cons_of_mem _ hx)⟩, by unfold wordKind; rw [h]; rfl⟩
        · cases h
theorem takeWhile_front (p : UInt8 → Bool) (r : List UInt8) (hr : ∀ b r', r = b :: r' → p b = false) : ∀ l : List UInt8, (∀ x ∈ l, p x = true) → (l ++ r).takeWhile p = l ∧ (l ++ r).dropWhile p = r
  | [], _ => by
    rw [List.nil_append]
    cases r with
    | nil => exact ⟨rfl, rfl⟩
    | cons b r' => rw [List.takeWhile_cons, List.dropWhile_cons, hr b r' rfl]; exact ⟨rfl, rfl⟩
  | a :: l, h => by
    have ih := takeWhile_front p r hr l (fun x hx => h x (List.mem_cons_of_mem _ hx))
    have ha := h a (List.mem_cons_self ..)
    rw [List.cons_append, List.takeWhile_cons, List.dropWhile_cons, if_pos ha, if_pos ha, ih.1, ih.2]
    exact ⟨rfl, rfl⟩
theorem cutL_front {z : Int} {t : ByteArray} {r : List UInt8} (hv : validB z t = true) (hr : ∀ b r', r = b :: r' → goCls (clsW z) b = false) :
    cutL (t.data.toList ++ r) = (cutL r).map ((z, t) :: ·) := by
  obtain ⟨b, r0, ht, h4, h0, hb, hr0, hk⟩ := valid_parts hv
  have hp : ∀ x ∈ r0, goCls (clsW z) x = true := by
    intro x hx
    rcases hr0 with rfl | ⟨h3, hr0⟩
    · cases hx
    · unfold goCls
      rw [hr0 x hx, decide_eq_true h3]
      simp
  have hw := takeWhile_front (goCls (clsW z)) r hr r0 hp
  have ht' : (⟨(b :: r0).toArray⟩ : ByteArray) = t := by rw [← ht]
  rw [ht, List.cons_append, cutL_cons, hb, hw.1, hw.2, ht', hk, if_neg h4, if_pos ⟨h0, hv⟩]
theorem goCls_sign (b : UInt8) : goCls 3 b = false := by unfold goCls; simp
def kindAt (ws : List (Int × ByteArray)) (k : Nat) : Int := (ws.getD k (0, ByteArray.empty)).1
def textAt (ws : List (Int × ByteArray)) (k : Nat) : ByteArray := (ws.getD k (0, ByteArray.empty)).2
theorem kindAt_eq {ws : List (Int × ByteArray)} {k : Nat} (h : k < ws.length) : kindAt ws k = ws[k].1 := by
  unfold kindAt; rw [List.getD_eq_getElem?_getD, List.getElem?_eq_getElem h, Option.getD_some]
theorem textAt_eq {ws : List (Int × ByteArray)} {k : Nat} (h : k < ws.length) : textAt ws k = ws[k].2 := by
  unfold textAt; rw [List.getD_eq_getElem?_getD, List.getElem?_eq_getElem h, Option.getD_some]
/-- The first k words, with a blank only between two that are no signs. -/
def tB (ws : List (Int × ByteArray)) : Nat → ByteArray
  | 0 => ⟨#[]⟩
  | k + 1 => if 0 < k ∧ kindAt ws k ≠ 3 ∧ kindAt ws (k - 1) ≠ 3 then tB ws k ++ ⟨#[32]⟩ ++ textAt ws k else tB ws k ++ textAt ws k
theorem both_snoc (x : Int × ByteArray) (a : List (Int × ByteArray)) (b : Option (List (Int × ByteArray))) : both (some a) (b.map (x :: ·)) = both (some (a ++ [x])) b := by
  cases b with
  | none => rfl
  | some y => show some (a ++ x :: y) = some (a ++ [x] ++ y); rw [List.append_assoc]; rfl
theorem cut_tight {ws : List (Int × ByteArray)} (hv : ∀ x ∈ ws, validB x.1 x.2 = true) : ∀ (k : Nat) (rest : List UInt8), k ≤ ws.length →
    (0 < k → ∀ b r', rest = b :: r' → goCls (clsW (kindAt ws (k - 1))) b = false) → cutL ((tB ws k).data.toList ++ rest) = both (some (ws.take k)) (cutL rest)
  | 0, rest, _, _ => by
    show cutL ([] ++ rest) = _
    rw [List.nil_append, List.take_zero, both_nil]
  | k + 1, rest, hk, hr => by
    have hk' : k < ws.length := hk
    have hvk := hv _ (List.getElem_mem hk')
    have hlast : ∀ b r', rest = b :: r' → goCls (clsW ws[k].1) b = false := by
      have h := hr (Nat.succ_pos k)
      rw [Nat.add_sub_cancel, kindAt_eq hk'] at h
      exact h
    have hf := cutL_front hvk hlast
    by_cases hs : 0 < k ∧ kindAt ws k ≠ 3 ∧ kindAt ws (k - 1) ≠ 3
    · have e : tB ws (k + 1) = tB ws k ++ ⟨#[32]⟩ ++ textAt ws k := by show (if _ then _ else _) = _; rw [if_pos hs]
      have e2 : (tB ws (k + 1)).data.toList ++ rest = (tB ws k).data.toList ++ (32 :: (ws[k].2.data.toList ++ rest)) := by
        rw [e, textAt_eq hk', ByteArray.data_append, ByteArray.data_append, Array.toList_append, Array.toList_append]
        show (tB ws k).data.toList ++ [32] ++ _ ++ rest = _
        simp
      have hc : ∀ c : Int, c ≠ 4 → goCls c 32 = false := fun c hc => goCls_no (by intro e; exact hc (e ▸ (by decide)))
      have hne : clsW (kindAt ws (k - 1)) ≠ 4 := by
        rw [kindAt_eq (by omega)]
        obtain ⟨_, _, _, h4, _⟩ := valid_parts (hv _ (List.getElem_mem (show k - 1 < ws.length by omega)))
        exact h4
      rw [e2, cut_tight hv k _ (by omega) (fun _ b r' hb => by injection hb with h1 h2; rw [← h1]; exact hc _ hne), cutL_blank (by decide), hf, both_snoc, List.take_succ_eq_append_getElem hk']
    · have e : tB ws (k + 1) = tB ws k ++ textAt ws k := by show (if _ then _ else _) = _; rw [if_neg hs]
      have e2 : (tB ws (k + 1)).data.toList ++ rest = (tB ws k).data.toList ++ (ws[k].2.data.toList ++ rest) := by
        rw [e, textAt_eq hk', ByteArray.data_append, Array.toList_append, List.append_assoc]
      rw [e2, cut_tight hv k _ (by omega) (fun h0 b r' hb => ?_), hf, both_snoc, List.take_succ_eq_append_getElem hk']
      obtain ⟨b0, r0, ht, _, _, hc0, _⟩ := valid_parts hvk
      rw [ht, List.cons_append] at hb
      injection hb with h1 h2
      rw [← h1]
      by_cases h3 : clsW (kindAt ws (k - 1)) = 3
      · rw [h3]; exact goCls_sign _
      · apply goCls_no
        rw [hc0]
        intro e3
        by_cases hk3 : kindAt ws k = 3
        · rw [kindAt_eq hk'] at hk3
          rw [hk3] at e3
          exact h3 (e3 ▸ rfl)
        · have : kindAt ws (k - 1) = 3 := by
            by_cases hx : kindAt ws (k - 1) = 3
            · exact hx
            · exact absurd ⟨h0, hk3, hx⟩ hs
          rw [this] at h3
          exact h3 rfl
theorem tB_size {ws : List (Int × ByteArray)} (hv : ∀ x ∈ ws, validB x.1 x.2 = true) : ∀ k, k ≤ ws.length → (tB ws k).size ≤ 5 * k
  | 0, _ => Nat.le_refl _
  | k + 1, hk => by
    have ih := tB_size hv k (by omega)
    have h4 := validB_size (hv _ (List.getElem_mem (show k < ws.length from hk)))
    have e1 : (⟨#[32]⟩ : ByteArray).size = 1 := rfl
    show (if _ then _ else _ : ByteArray).size ≤ _
    rw [textAt_eq (show k < ws.length from hk)]
    split
    · rw [ByteArray.size_append, ByteArray.size_append]; omega
    · rw [ByteArray.size_append]; omega
theorem cutRes_tight {ws : List (Int × ByteArray)} (hv : ∀ x ∈ ws, validB x.1 x.2 = true) (hl : ws.length ≤ 20) : cutRes (tB ws ws.length) = (ws, true) := by
  have hs := tB_size hv ws.length (Nat.le_refl _)
  have h := cut_tight hv ws.length [] (Nat.le_refl _) (fun _ b r' hb => by cases hb)
  rw [List.append_nil, cutL_nil, List.take_of_length_le (Nat.le_refl _)] at h
  refine cutRes_yes (by omega) ?_ (by omega)
  rw [cut_list, h]
  show some (ws ++ []) = _
  rw [List.append_nil]
theorem plain_tight {ws : List (Int × ByteArray)} (hv : ∀ x ∈ ws, validB x.1 x.2 = true) (hl : ws.length ≤ 20) : plainF (tB ws ws.length) = joinF ws := by
  unfold plainF
  rw [cutRes_tight hv hl]
  rfl
theorem tB_sep {ws : List (Int × ByteArray)} {k : Nat} (hk : k < ws.length) (h0 : 0 < k) (h1 : ws[k].1 ≠ 3) (h2 : (ws[k - 1]'(by omega)).1 ≠ 3) : tB ws (k + 1) = tB ws k ++ ⟨#[32]⟩ ++ ws[k].2 := by
  show (if _ then _ else _) = _
  rw [if_pos ⟨h0, by rw [kindAt_eq hk]; exact h1, by rw [kindAt_eq (by omega)]; exact h2⟩, textAt_eq hk]
theorem tB_nosep {ws : List (Int × ByteArray)} {k : Nat} (hk : k < ws.length) (h : k = 0 ∨ ws[k].1 = 3 ∨ ∃ h : k - 1 < ws.length, ws[k - 1].1 = 3) : tB ws (k + 1) = tB ws k ++ ws[k].2 := by
  show (if _ then _ else _) = _
  rw [if_neg, textAt_eq hk]
  rintro ⟨h0, h1, h2⟩
  rw [kindAt_eq hk] at h1
  rcases h with h | h | ⟨hh, h⟩
  · omega
  · exact h1 h
  · rw [kindAt_eq hh] at h2; exact h2 h
end Go.Proofs.YtljdbjfbcjigaaaGreatDoor
