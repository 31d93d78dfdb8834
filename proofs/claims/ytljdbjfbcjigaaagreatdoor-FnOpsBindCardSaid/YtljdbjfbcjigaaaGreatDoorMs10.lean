/-
  Plain mathematics: reading goes on the same with more behind, whatever the fuel; brackets around what is read; a sign behind what is cut.
-/
import Derived.Test.YtljdbjfbcjigaaaGreatDoorMg10
import Derived.Test.YtljdbjfbcjigaaaGreatDoorMg25
import Derived.Test.YtljdbjfbcjigaaaGreatDoorMg7
import Derived.Test.YtljdbjfbcjigaaaGreatDoorMs7
import Derived.Test.YtljdbjfbcjigaaaGreatDoorMs9
namespace Go.Proofs.YtljdbjfbcjigaaaGreatDoor
open Go.RowKit
set_option maxRecDepth 100000

theorem eqB_symm (a b : E) : eqB b a = eqB a b := by
  by_cases h : a = b
  · rw [h]
  · rw [eqB_no h, eqB_no fun e => h e.symm]
theorem texts_same {a b : E} (ha : (textF a).2 = true) (hb : (textF b).2 = true) : ((textF a).1.toList == (textF b).1.toList) = eqB a b := by
  have va : validE a = true := by
    cases h : validE a with
    | true => rfl
    | false => rw [textF_no h] at ha; cases ha
  have vb : validE b = true := by
    cases h : validE b with
    | true => rfl
    | false => rw [textF_no h] at hb; cases hb
  rw [textF_yes va, textF_yes vb]
  by_cases h : a = b
  · subst h
    rw [eqB_yes]
    simp
  · rw [eqB_no h]
    exact str_eq_false fun e => h (text_inj va vb e)
set_option maxHeartbeats 8000000 in
theorem fnSameExpr_walk (Ac : Option Addr) (l : List UInt8) (cap : Nat) (w : World) (h : Bytes w w.heap.size Ac l) (hn : l.length ≤ cap) (hcap : cap ≤ 9223372036854775807) (T : Tabs w) (N : NTabs w) (G : Sgn w) :
    Calls Tryz.prog 5 #[.slice Ac l.length cap] w fun ee w' => ee = .returned (.bool true) ∧ Below w.heap.size w w' := by
  by_cases hbig : 1048576 < l.length
  · have hbig' : (1048576 : Int) < l.length := by omega
    clear h T N G
    go_enter Tryz.func5, Tryz.ntmps5
    go_wp2_with fail
    go_ret
    exact ⟨rfl, Below.refl _ _⟩
  have hbig' : ¬ (1048576 : Int) < l.length := by omega
  have DR := Lib.hid (drawSameExpr_any Ac l cap w h hn hcap)
  have TNG := Lib.hid (show ∀ W, Below w.heap.size w W → Tabs W ∧ NTabs W ∧ Sgn W from fun W h => ⟨T.below h, N.below h, G.below h⟩)
  clear h T N G hbig
  go_enter Tryz.func5, Tryz.ntmps5
  go_wp2_with fail
  refine Calls.mono DR.out ?_
  rintro ee w1 ⟨a, b, A, B, c, d, rfl, hp1, hq1, hba, hbb, hb1⟩
  unfold exV
  obtain ⟨u, v, hlt, hal⟩ := two4 w1 (.int .i64 a.op) (.int .i64 a.n) (.string a.name) (.slice A a.kids.length c) (.int .i64 b.op) (.int .i64 b.n) (.string b.name) (.slice B b.kids.length d) 28 28
  have U2 := Lib.hid u
  have V2 := Lib.hid v
  have HB2 := Lib.hid (hb1.trans (hal.mono hb1.size))
  have HP2 := Lib.hid (PdS.later hp1 hal (Nat.le_refl _) hal.size)
  have HQ2 := Lib.hid (PdS.later hq1 hal (Nat.le_refl _) hal.size)
  clear hb1 hp1 hq1 DR hal u v
  go_wp2_with fail
  generalize (w1.alloc (.cells #[.int .i64 a.op, .int .i64 a.n, .string a.name, .slice A a.kids.length c] 28)).alloc (.cells #[.int .i64 b.op, .int .i64 b.n, .string b.name, .slice B b.kids.length d] 28) = w2 at *
  have RA := fun W (h : Below w2.heap.size w2 W) => (HP2.out.later h (Nat.zero_le _) h.size)
  have RB := fun W (h : Below w2.heap.size w2 W) => (HQ2.out.later h (Nat.zero_le _) h.size)
  have TG := fun W (h : Below w2.heap.size w2 W) => TNG.out W (HB2.out.trans (h.mono HB2.out.size))
  have SAB := fun W h => implSame_walk a b A c B d W (RA W h) (RB W h) (by omega) (by omega)
  have SBA := fun W h => implSame_walk b a B d A c W (RB W h) (RA W h) (by omega) (by omega)
  have SAA := fun W h => implSame_walk a a A c A c W (RA W h) (RA W h) (by omega) (by omega)
  have PAB := fun W h => specSameExpr_any a b A c B d W (RA W h).between_rd (RB W h).between_rd (by omega) (by omega)
  have XA := fun W h => implExprText_any a A c W (RA W h).between_rd (by omega) (TG W h).1 (TG W h).2.1 (TG W h).2.2
  have XB := fun W h => implExprText_any b B d W (RB W h).between_rd (by omega) (TG W h).1 (TG W h).2.1 (TG W h).2.2
  have YA := fun W h => specExprText_any a A c W (RA W h).between_rd (by omega)
  have HZ := @texts_same a b
  rw [eqB_symm] at SBA
  rw [eqB_yes] at SAA
  unfold exV at SAB SBA SAA PAB XA XB YA
  generalize textF a = p at *
  generalize textF b = q at *
  generalize eqB a b = z at *
  obtain ⟨p, one⟩ := p
  obtain ⟨q, two⟩ := q
  dsimp only at HZ
  replace SAB := fun W h => Lib.hid (SAB W h)
  replace SBA := fun W h => Lib.hid (SBA W h)
  replace SAA := fun W h => Lib.hid (SAA W h)
  replace PAB := fun W h => Lib.hid (PAB W h)
  replace XA := fun W h => Lib.hid (XA W h)
  replace XB := fun W h => Lib.hid (XB W h)
  replace YA := fun W h => Lib.hid (YA W h)
  replace HZ := Lib.hid HZ
  clear RA RB TG TNG HP2 HQ2 hba hbb
  have z1 : (z != z) = false := by simp
  have p1 : (p.toList == p.toList) = true := by simp
  have o1 : (one != one) = false := by simp
  have hlt0 : w1.heap.size < w2.heap.size := by omega
  (with_reducible refine Calls.mono (SAB w2 (Below.refl _ _)).out ?_)
  rintro ee w3 ⟨rfl, hb3⟩
  obtain ⟨x0, x1, x2, x3⟩ := U2.out.below hb3 hlt0
  obtain ⟨y0, y1, y2, y3⟩ := V2.out.below hb3 hlt
  have PAB3 := Lib.hid (PAB w3 hb3).out
  clear SAB PAB
  go_wp2_with fail
  (with_reducible refine Calls.mono PAB3.out ?_)
  rintro ee w4 ⟨rfl, hb34⟩
  have hb4 := hb3.trans (hb34.mono hb3.size)
  clear x0 x1 x2 x3 y0 y1 y2 y3 PAB3 hb3 hb34
  obtain ⟨x0, x1, x2, x3⟩ := U2.out.below hb4 hlt0
  obtain ⟨y0, y1, y2, y3⟩ := V2.out.below hb4 hlt
  have SBA4 := Lib.hid (SBA w4 hb4).out
  clear SBA
  go_wp2_with fail
  (with_reducible refine Calls.mono SBA4.out ?_)
  rintro ee w5 ⟨rfl, hb45⟩
  have hb5 := hb4.trans (hb45.mono hb4.size)
  clear x0 x1 x2 x3 y0 y1 y2 y3 SBA4 hb4 hb45
  obtain ⟨x0, x1, x2, x3⟩ := U2.out.below hb5 hlt0
  have SAA5 := Lib.hid (SAA w5 hb5).out
  clear SAA
  go_wp2_with fail
  (with_reducible refine Calls.mono SAA5.out ?_)
  rintro ee w6 ⟨rfl, hb56⟩
  have hb6 := hb5.trans (hb56.mono hb5.size)
  clear x0 x1 x2 x3 SAA5 hb5 hb56
  obtain ⟨x0, x1, x2, x3⟩ := U2.out.below hb6 hlt0
  have XA6 := Lib.hid (XA w6 hb6).out
  clear XA
  go_wp2_with fail
  (with_reducible refine Calls.mono XA6.out ?_)
  rintro ee w7 ⟨rfl, hb67⟩
  have hb7 := hb6.trans (hb67.mono hb6.size)
  clear x0 x1 x2 x3 XA6 hb6 hb67
  obtain ⟨y0, y1, y2, y3⟩ := V2.out.below hb7 hlt
  have XB7 := Lib.hid (XB w7 hb7).out
  clear XB
  go_wp2_with fail
  (with_reducible refine Calls.mono XB7.out ?_)
  rintro ee w8 ⟨rfl, hb78⟩
  have hb8 := hb7.trans (hb78.mono hb7.size)
  clear y0 y1 y2 y3 XB7 hb7 hb78
  obtain ⟨x0, x1, x2, x3⟩ := U2.out.below hb8 hlt0
  have YA8 := Lib.hid (YA w8 hb8).out
  clear YA
  go_wp2_with fail
  (with_reducible refine Calls.mono YA8.out ?_)
  rintro ee w9 ⟨rfl, hb89⟩
  have hb9 := HB2.out.trans ((hb8.trans (hb89.mono hb8.size)).mono HB2.out.size)
  clear x0 x1 x2 x3 YA8 hb8 hb89 U2 V2 HB2
  cases one
  · go_wp2_with fail
    go_ret
    exact ⟨rfl, hb9⟩
  · cases two
    · go_wp2_with fail
      go_ret
      exact ⟨rfl, hb9⟩
    · have hz := HZ.out rfl rfl
      have zz : (z == z) = true := by simp
      clear HZ
      go_wp2_with fail
      go_ret
      exact ⟨rfl, hb9⟩
end Go.Proofs.YtljdbjfbcjigaaaGreatDoor

namespace Go.Proofs.YtljdbjfbcjigaaaGreatDoor
open Go.RowKit

/-- The class of the bytes of a valid word. -/
def clsW (z : Int) : Int := if z = 4 then 1 else z
open Classical in
theorem valid_parts {z : Int} {t : ByteArray} (h : validB z t = true) :
    ∃ b r, t.data.toList = b :: r ∧ clsW z ≠ 4 ∧ clsW z ≠ 0 ∧ cls b.toNat = clsW z ∧ (r = [] ∨ (clsW z < 3 ∧ ∀ x ∈ r, cls x.toNat = clsW z)) ∧ wordKind t (clsW z) = z := by
  have hv := h
  have nokey : ∀ {b : UInt8} {r : List UInt8}, t.data.toList = b :: r → cls b.toNat ≠ 1 → isKeyB t = false := by
    intro b r ht hb
    rw [Bool.eq_false_iff]
    intro hk
    obtain ⟨h0, hc⟩ := key_letter hk
    obtain ⟨b', r', ht', hg⟩ := nonempty_cons h0
    rw [ht] at ht'
    injection ht' with e1 e2
    rw [hg h0, ← e1] at hc
    exact hb hc
  unfold validB at h
  split at h
  · subst_vars
    unfold nameB at h
    simp only [Bool.and_eq_true, decide_eq_true_eq, Bool.not_eq_true'] at h
    obtain ⟨⟨ha, _⟩, hk⟩ := h
    unfold allB at ha
    replace ha := of_decide_eq_true ha
    obtain ⟨b, r, ht, hg⟩ := nonempty_cons ha.1
    have hall : ∀ x ∈ t.data.toList, cls x.toNat = 1 := by
      intro x hx
      obtain ⟨j, hj, rfl⟩ := mem_iff_get.1 hx
      exact ha.2 j hj hj
    rw [ht] at hall
    exact ⟨b, r, ht, by decide, by decide, hall b (List.mem_cons_self ..), .inr ⟨by decide, fun x hx => hall x (List.mem_cons_of_mem _ hx)⟩, by unfold wordKind; rw [hk]; rfl⟩
  · split at h
    · subst_vars
      rw [decide_eq_true_eq] at h
      unfold numB at h
      split at h
      · rename_i hc
        have hcan := hc.1
        unfold canon at hcan
        simp only [Bool.and_eq_true] at hcan
        have hall : ∀ x ∈ t.data.toList, cls x.toNat = 2 := fun x hx => isDig_cls (List.all_eq_true.1 hcan.1.2 x hx)
        have h0 : 0 < t.size := by
          rw [← len_list]
          cases hd : t.data.toList with
          | nil => rw [hd] at hcan; simp at hcan
          | cons _ _ => simp
        obtain ⟨b, r, ht, hg⟩ := nonempty_cons h0
        rw [ht] at hall
        have hb := hall b (List.mem_cons_self ..)
        exact ⟨b, r, ht, by decide, by decide, hb, .inr ⟨by decide, fun x hx => hall x (List.mem_cons_of_mem _ hx)⟩, by unfold wordKind; rw [nokey ht (by omega)]; rfl⟩
      · omega
    · split at h
      · subst_vars
        unfold signB at h
        split at h
        · rename_i h1
          rw [beq_iff_eq] at h
          obtain ⟨b, r, ht, hg⟩ := nonempty_cons (t := t) (by omega)
          rw [hg] at h
          have hr : r = [] := by
            have := len_list t
            rw [ht, List.length_cons] at this
            exact List.eq_nil_of_length_eq_zero (by omega)
          exact ⟨b, r, ht, by decide, by decide, h, .inl hr, by unfold wordKind; rw [nokey ht (by omega)]; rfl⟩
        · cases h
      · split at h
        · subst_vars
          obtain ⟨h0, _⟩ := key_letter h
          obtain ⟨b, r, ht, hg⟩ := nonempty_cons h0
          have hall : ∀ x ∈ t.data.toList, cls x.toNat = 1 := by
            obtain ⟨k, hk, rfl⟩ := (isKeyB_iff t).1 h
            exact key_letters k hk
          rw [ht] at hall
          exact ⟨b, r, ht, by decide, by decide, hall b (List.mem_cons_self ..), .inr ⟨by decide, fun x hx => hall x (List.mem_cons_of_mem _ hx)⟩, by unfold wordKind; rw [h]; rfl⟩
        · cases h
theorem takeWhile_front (p : UInt8 → Bool) (r : List UInt8) (hr : ∀ b r', r = b :: r' → p b = false) : ∀ l : List UInt8, (∀ x ∈ l, p x = true) → (l ++ r).takeWhile p = l ∧ (l ++ r).dropWhile p = r
  | [], _ => by
    rw [List.nil_append]
    cases r with
    | nil => exact ⟨rfl, rfl⟩
    | cons b r' => rw [List.takeWhile_cons, List.dropWhile_cons, hr b r' rfl]; exact ⟨rfl, rfl⟩
  | a :: l, h => by
    have ih := takeWhile_front p r hr l (fun x hx => h x (List.mem_cons_of_mem _ hx))
    have ha := h a (List.mem_cons_self ..)
    rw [List.cons_append, List.takeWhile_cons, List.dropWhile_cons, if_pos ha, if_pos ha, ih.1, ih.2]
    exact ⟨rfl, rfl⟩
theorem cutL_front {z : Int} {t : ByteArray} {r : List UInt8} (hv : validB z t = true) (hr : ∀ b r', r = b :: r' → goCls (clsW z) b = false) :
    cutL (t.data.toList ++ r) = (cutL r).map ((z, t) :: ·) := by
  obtain ⟨b, r0, ht, h4, h0, hb, hr0, hk⟩ := valid_parts hv
  have hp : ∀ x ∈ r0, goCls (clsW z) x = true := by
    intro x hx
    rcases hr0 with rfl | ⟨h3, hr0⟩
    · cases hx
    · unfold goCls
      rw [hr0 x hx, decide_eq_true h3]
      simp
  have hw := takeWhile_front (goCls (clsW z)) r hr r0 hp
  have ht' : (⟨(b :: r0).toArray⟩ : ByteArray) = t := by rw [← ht]
  rw [ht, List.cons_append, cutL_cons, hb, hw.1, hw.2, ht', hk, if_neg h4, if_pos ⟨h0, hv⟩]
theorem goCls_sign (b : UInt8) : goCls 3 b = false := by unfold goCls; simp
def kindAt (ws : List (Int × ByteArray)) (k : Nat) : Int := (ws.getD k (0, ByteArray.empty)).1
def textAt (ws : List (Int × ByteArray)) (k : Nat) : ByteArray := (ws.getD k (0, ByteArray.empty)).2
theorem kindAt_eq {ws : List (Int × ByteArray)} {k : Nat} (h : k < ws.length) : kindAt ws k = ws[k].1 := by
  unfold kindAt; rw [List.getD_eq_getElem?_getD, List.getElem?_eq_getElem h, Option.getD_some]
theorem textAt_eq {ws : List (Int × ByteArray)} {k : Nat} (h : k < ws.length) : textAt ws k = ws[k].2 := by
  unfold textAt; rw [List.getD_eq_getElem?_getD, List.getElem?_eq_getElem h, Option.getD_some]
/-- The first k words, with a blank only between two that are no signs. -/
def tB (ws : List (Int × ByteArray)) : Nat → ByteArray
  | 0 => ⟨#[]⟩
  | k + 1 => if 0 < k ∧ kindAt ws k ≠ 3 ∧ kindAt ws (k - 1) ≠ 3 then tB ws k ++ ⟨#[32]⟩ ++ textAt ws k else tB ws k ++ textAt ws k
theorem both_snoc (x : Int × ByteArray) (a : List (Int × ByteArray)) (b : Option (List (Int × ByteArray))) : both (some a) (b.map (x :: ·)) = both (some (a ++ [x])) b := by
  cases b with
  | none => rfl
  | some y => show some (a ++ x :: y) = some (a ++ [x] ++ y); rw [List.append_assoc]; rfl
theorem cut_tight {ws : List (Int × ByteArray)} (hv : ∀ x ∈ ws, validB x.1 x.2 = true) : ∀ (k : Nat) (rest : List UInt8), k ≤ ws.length →
    (0 < k → ∀ b r', rest = b :: r' → goCls (clsW (kindAt ws (k - 1))) b = false) → cutL ((tB ws k).data.toList ++ rest) = both (some (ws.take k)) (cutL rest)
  | 0, rest, _, _ => by
    show cutL ([] ++ rest) = _
    rw [List.nil_append, List.take_zero, both_nil]
  | k + 1, rest, hk, hr => by
    have hk' : k < ws.length := hk
    have hvk := hv _ (List.getElem_mem hk')
    have hlast : ∀ b r', rest = b :: r' → goCls (clsW ws[k].1) b = false := by
      have h := hr (Nat.succ_pos k)
      rw [Nat.add_sub_cancel, kindAt_eq hk'] at h
      exact h
    have hf := cutL_front hvk hlast
    by_cases hs : 0 < k ∧ kindAt ws k ≠ 3 ∧ kindAt ws (k - 1) ≠ 3
    · have e : tB ws (k + 1) = tB ws k ++ ⟨#[32]⟩ ++ textAt ws k := by show (if _ then _ else _) = _; rw [if_pos hs]
      have e2 : (tB ws (k + 1)).data.toList ++ rest = (tB ws k).data.toList ++ (32 :: (ws[k].2.data.toList ++ rest)) := by
        rw [e, textAt_eq hk', ByteArray.data_append, ByteArray.data_append, Array.toList_append, Array.toList_append]
        show (tB ws k).data.toList ++ [32] ++ _ ++ rest = _
        simp
      have hc : ∀ c : Int, c ≠ 4 → goCls c 32 = false := fun c hc => goCls_no (by intro e; exact hc (e ▸ (by decide)))
      have hne : clsW (kindAt ws (k - 1)) ≠ 4 := by
        rw [kindAt_eq (by omega)]
        obtain ⟨_, _, _, h4, _⟩ := valid_parts (hv _ (List.getElem_mem (show k - 1 < ws.length by omega)))
        exact h4
      rw [e2, cut_tight hv k _ (by omega) (fun _ b r' hb => by injection hb with h1 h2; rw [← h1]; exact hc _ hne), cutL_blank (by decide), hf, both_snoc, List.take_succ_eq_append_getElem hk']
    · have e : tB ws (k + 1) = tB ws k ++ textAt ws k := by show (if _ then _ else _) = _; rw [if_neg hs]
      have e2 : (tB ws (k + 1)).data.toList ++ rest = (tB ws k).data.toList ++ (ws[k].2.data.toList ++ rest) := by
        rw [e, textAt_eq hk', ByteArray.data_append, Array.toList_append, List.append_assoc]
      rw [e2, cut_tight hv k _ (by omega) (fun h0 b r' hb => ?_), hf, both_snoc, List.take_succ_eq_append_getElem hk']
      obtain ⟨b0, r0, ht, _, _, hc0, _⟩ := valid_parts hvk
      rw [ht, List.cons_append] at hb
      injection hb with h1 h2
      rw [← h1]
      by_cases h3 : clsW (kindAt ws (k - 1)) = 3
      · rw [h3]; exact goCls_sign _
      · apply goCls_no
        rw [hc0]
        intro e3
        by_cases hk3 : kindAt ws k = 3
        · rw [kindAt_eq hk'] at hk3
          rw [hk3] at e3
          exact h3 (e3 ▸ rfl)
        · have : kindAt ws (k - 1) = 3 := by
            by_cases hx : kindAt ws (k - 1) = 3
            · exact hx
            · exact absurd ⟨h0, hk3, hx⟩ hs
          rw [this] at h3
          exact h3 rfl
theorem tB_size {ws : List (Int × ByteArray)} (hv : ∀ x ∈ ws, validB x.1 x.2 = true) : ∀ k, k ≤ ws.length → (tB ws k).size ≤ 5 * k
  | 0, _ => Nat.le_refl _
  | k + 1, hk => by
    have ih := tB_size hv k (by omega)
    have h4 := validB_size (hv _ (List.getElem_mem (show k < ws.length from hk)))
    have e1 : (⟨#[32]⟩ : ByteArray).size = 1 := rfl
    show (if _ then _ else _ : ByteArray).size ≤ _
    rw [textAt_eq (show k < ws.length from hk)]
    split
    · rw [ByteArray.size_append, ByteArray.size_append]; omega
    · rw [ByteArray.size_append]; omega
theorem cutRes_tight {ws : List (Int × ByteArray)} (hv : ∀ x ∈ ws, validB x.1 x.2 = true) (hl : ws.length ≤ 20) : cutRes (tB ws ws.length) = (ws, true) := by
  have hs := tB_size hv ws.length (Nat.le_refl _)
  have h := cut_tight hv ws.length [] (Nat.le_refl _) (fun _ b r' hb => by cases hb)
  rw [List.append_nil, cutL_nil, List.take_of_length_le (Nat.le_refl _)] at h
  refine cutRes_yes (by omega) ?_ (by omega)
  rw [cut_list, h]
  show some (ws ++ []) = _
  rw [List.append_nil]
theorem plain_tight {ws : List (Int × ByteArray)} (hv : ∀ x ∈ ws, validB x.1 x.2 = true) (hl : ws.length ≤ 20) : plainF (tB ws ws.length) = joinF ws := by
  unfold plainF
  rw [cutRes_tight hv hl]
  rfl
theorem tB_sep {ws : List (Int × ByteArray)} {k : Nat} (hk : k < ws.length) (h0 : 0 < k) (h1 : ws[k].1 ≠ 3) (h2 : (ws[k - 1]'(by omega)).1 ≠ 3) : tB ws (k + 1) = tB ws k ++ ⟨#[32]⟩ ++ ws[k].2 := by
  show (if _ then _ else _) = _
  rw [if_pos ⟨h0, by rw [kindAt_eq hk]; exact h1, by rw [kindAt_eq (by omega)]; exact h2⟩, textAt_eq hk]
theorem tB_nosep {ws : List (Int × ByteArray)} {k : Nat} (hk : k < ws.length) (h : k = 0 ∨ ws[k].1 = 3 ∨ ∃ h : k - 1 < ws.length, ws[k - 1].1 = 3) : tB ws (k + 1) = tB ws k ++ ws[k].2 := by
  show (if _ then _ else _) = _
  rw [if_neg, textAt_eq hk]
  rintro ⟨h0, h1, h2⟩
  rw [kindAt_eq hk] at h1
  rcases h with h | h | ⟨hh, h⟩
  · omega
  · exact h1 h
  · rw [kindAt_eq hh] at h2; exact h2 h
end Go.Proofs.YtljdbjfbcjigaaaGreatDoor

namespace Go.Proofs.YtljdbjfbcjigaaaGreatDoor
open Go.RowKit

/-- What ends an expression. -/
def TB (t : List W) : Prop := isT t lpS = false ∧ ∀ l, opAt l t = none
theorem TB.nil : TB [] := ⟨rfl, fun _ => opAt_none fun _ _ _ _ => rfl⟩
theorem TB.rp (r : List W) : TB ((3, rpS) :: r) := ⟨isT_no (by decide), fun l => opAt_rp l 3 r⟩
theorem isT_more {ws : List W} {s : ByteArray} (t : List W) (h : isT ws s = true) : isT (ws ++ t) s = true ∧ (ws ++ t).tail = ws.tail ++ t := by
  obtain ⟨w, r, rfl, _⟩ := isT_cons h
  exact ⟨h, rfl⟩
theorem isT_same {ws : List W} {s s' : ByteArray} (t : List W) (h : isT ws s = true) : isT (ws ++ t) s' = isT ws s' := by
  obtain ⟨w, r, rfl, _⟩ := isT_cons h
  rfl
structure RdExt (nm : ByteArray → Int) (t : List W) (m : Nat) : Prop where
  L : ∀ l ws e r, 1 ≤ l → l ≤ 5 → rdL nm m l ws = some (e, r) → ∀ m', 10 * ws.length + 10 ≤ m' + l → rdL nm m' l (ws ++ t) = some (e, r ++ t)
  O : ∀ l x ws e r, 1 ≤ l → l ≤ 4 → rdO nm m l x ws = some (e, r) → ∀ m', 10 * ws.length + 1 ≤ m' → rdO nm m' l x (ws ++ t) = some (e, r ++ t)
  T : ∀ ws e r, rdT nm m ws = some (e, r) → ∀ m', 10 * ws.length + 4 ≤ m' → rdT nm m' (ws ++ t) = some (e, r ++ t)
  W : ∀ ws e r, rdW nm m ws = some (e, r) → ∀ m', 10 * ws.length + 3 ≤ m' → rdW nm m' (ws ++ t) = some (e, r ++ t)
  C : ∀ ws ks r, rdC nm m ws = some (ks, r) → ∀ m', 10 * ws.length + 11 ≤ m' → rdC nm m' (ws ++ t) = some (ks, r ++ t)
  K : ∀ acc ws ks r, rdK nm m acc ws = some (ks, r) → ∀ m', 10 * ws.length + 10 ≤ m' → rdK nm m' acc (ws ++ t) = some (ks, r ++ t)
theorem rd_ext (nm : ByteArray → Int) {t : List W} (ht : TB t) : ∀ m, RdExt nm t m
  | 0 => ⟨fun _ _ _ _ _ _ h => (by cases h), fun _ _ _ _ _ _ _ h => (by cases h), fun _ _ _ h => (by cases h), fun _ _ _ h => (by cases h), fun _ _ _ h => (by cases h), fun _ _ _ _ h => (by cases h)⟩
  | m + 1 => by
    have ih := rd_ext nm ht m
    have ls := rd_less nm m
    refine ⟨?_, ?_, ?_, ?_, ?_, ?_⟩
    · intro l ws e r h1 hl h m' hm
      have h' : (if 4 < l then rdT nm m ws else (rdL nm m (l + 1) ws).bind fun p => rdO nm m l p.1 p.2) = some (e, r) := h
      obtain ⟨n, rfl⟩ : ∃ n, m' = n + 1 := ⟨m' - 1, by omega⟩
      show (if 4 < l then rdT nm n (ws ++ t) else (rdL nm n (l + 1) (ws ++ t)).bind fun p => rdO nm n l p.1 p.2) = _
      split at h'
      · rename_i h4
        rw [if_pos h4]
        exact ih.T _ _ _ h' n (by omega)
      · rename_i h4
        rw [if_neg h4]
        rw [Option.bind_eq_some_iff] at h'
        obtain ⟨⟨x, r1⟩, a, b⟩ := h'
        obtain ⟨_, l2, _, _⟩ := ls.L _ _ _ _ (by omega) a
        rw [ih.L _ _ _ _ (by omega) (by omega) a n (by omega)]
        exact ih.O _ _ _ _ _ h1 (by omega) b n (by first | omega | (dsimp only; omega))
    · intro l x ws e r h1 hl h m' hm
      have h' : (match opAt l ws with
        | none => some (x, ws)
        | some op => (rdL nm m (l + 1) ws.tail).bind fun p => rdO nm m l (binE op x p.1) p.2) = some (e, r) := h
      obtain ⟨n, rfl⟩ : ∃ n, m' = n + 1 := ⟨m' - 1, by omega⟩
      show (match opAt l (ws ++ t) with
        | none => some (x, ws ++ t)
        | some op => (rdL nm n (l + 1) (ws ++ t).tail).bind fun p => rdO nm n l (binE op x p.1) p.2) = _
      split at h'
      · rename_i ho
        injection h' with h'; injection h' with e1 e2; subst e1; subst e2
        have ho' : opAt l (ws ++ t) = none := by
          cases ws with
          | nil => exact ht.2 l
          | cons w r => exact ho
        rw [ho']
      · rename_i op hop
        obtain ⟨_, _, _, o4⟩ := opAt_some hop
        obtain ⟨w, ws', rfl, ow⟩ := isT_cons o4
        have ho' : opAt l (w :: ws' ++ t) = some op := hop
        rw [ho']
        rw [Option.bind_eq_some_iff] at h'
        obtain ⟨⟨y, r1⟩, a, b⟩ := h'
        dsimp only [List.tail_cons] at a b
        obtain ⟨_, l2, _, _⟩ := ls.L _ _ _ _ (by omega) a
        rw [List.length_cons] at hm
        show ((rdL nm n (l + 1) (ws' ++ t)).bind fun p => rdO nm n l (binE op x p.1) p.2) = _
        rw [ih.L _ _ _ _ (by omega) (by omega) a n (by omega)]
        exact ih.O _ _ _ _ _ h1 hl b n (by first | omega | (dsimp only; omega))
    · intro ws e r h m' hm
      have h' : (match aheadAt ws with
        | some op => (rdT nm m ws.tail).bind fun p => some (unE op p.1, p.2)
        | none => rdW nm m ws) = some (e, r) := h
      obtain ⟨n, rfl⟩ : ∃ n, m' = n + 1 := ⟨m' - 1, by omega⟩
      show (match aheadAt (ws ++ t) with
        | some op => (rdT nm n (ws ++ t).tail).bind fun p => some (unE op p.1, p.2)
        | none => rdW nm n (ws ++ t)) = _
      split at h'
      · rename_i op hop
        obtain ⟨o1, o4⟩ := aheadAt_some hop
        obtain ⟨w, ws', rfl, ow⟩ := isT_cons o4
        have ho' : aheadAt (w :: ws' ++ t) = some op := hop
        rw [ho']
        rw [Option.bind_eq_some_iff] at h'
        obtain ⟨⟨x, r1⟩, a, b⟩ := h'
        injection b with b; injection b with b1 b2; subst b1; subst b2
        rw [List.length_cons] at hm
        show ((rdT nm n (ws' ++ t)).bind fun p => some (unE op p.1, p.2)) = _
        have a' : rdT nm m ws' = some (x, r1) := a
        rw [ih.T _ _ _ a' n (by omega)]
        rfl
      · rename_i hop
        have hne : ws ≠ [] := by
          rintro rfl
          cases m with
          | zero => cases h'
          | succ m => cases h'
        have ho' : aheadAt (ws ++ t) = none := by
          cases ws with
          | nil => exact absurd rfl hne
          | cons w r => exact hop
        rw [ho']
        exact ih.W _ _ _ h' n (by omega)
    · intro ws e r h m' hm
      obtain ⟨n, rfl⟩ : ∃ n, m' = n + 1 := ⟨m' - 1, by omega⟩
      cases ws with
      | nil => cases h
      | cons w ws =>
        rw [rdW_eq] at h
        rw [List.length_cons] at hm
        show rdW nm (n + 1) (w :: (ws ++ t)) = _
        rw [rdW_eq]
        split at h
        · rename_i hw
          rw [if_pos hw]
          rw [Option.bind_eq_some_iff] at h
          obtain ⟨⟨x, r1⟩, a, b⟩ := h
          dsimp only at b
          split at b
          · rename_i hr
            injection b with b; injection b with b1 b2; subst b1; subst b2
            rw [ih.L _ _ _ _ (by omega) (by omega) a n (by omega)]
            obtain ⟨i1, i2⟩ := isT_more t hr
            show (if isT (r1 ++ t) rpS = true then some (x, (r1 ++ t).tail) else none) = _
            rw [if_pos i1, i2]
          · cases b
        · rename_i hw
          rw [if_neg hw]
          split at h
          · rename_i h2
            rw [if_pos h2]
            injection h with h; injection h with b1 b2; subst b1; subst b2
            rfl
          · rename_i h2
            rw [if_neg h2]
            split at h
            · rename_i h3
              rw [if_pos h3]
              split at h
              · rename_i hl
                obtain ⟨i1, i2⟩ := isT_more t hl
                obtain ⟨w2, r2, rfl, _⟩ := isT_cons hl
                rw [if_pos i1, i2]
                rw [Option.bind_eq_some_iff] at h
                obtain ⟨⟨ks, r1⟩, a, b⟩ := h
                injection b with b; injection b with b1 b2; subst b1; subst b2
                rw [List.length_cons] at hm
                rw [ih.C _ _ _ a n (by dsimp only [List.tail_cons]; omega)]
                rfl
              · rename_i hl
                injection h with h; injection h with b1 b2; subst b1; subst b2
                have hl' : isT (ws ++ t) lpS = false := by
                  cases ws with
                  | nil => exact ht.1
                  | cons w2 r2 =>
                    have : isT (w2 :: r2) lpS = false := by simpa using hl
                    exact this
                rw [if_neg (by rw [hl']; simp)]
            · cases h
    · intro ws ks r h m' hm
      obtain ⟨n, rfl⟩ : ∃ n, m' = n + 1 := ⟨m' - 1, by omega⟩
      rw [rdC_eq] at h ⊢
      split at h
      · rename_i hr
        obtain ⟨i1, i2⟩ := isT_more t hr
        rw [if_pos i1, i2]
        injection h with h; injection h with b1 b2; subst b1; subst b2
        rfl
      · rename_i hr
        have hne : ws ≠ [] := by
          rintro rfl
          obtain ⟨_, l2, _⟩ := ls.K _ _ _ _ h
          simp at l2
        have hr' : ¬ isT (ws ++ t) rpS = true := by
          cases ws with
          | nil => exact absurd rfl hne
          | cons w2 r2 => exact hr
        rw [if_neg hr']
        exact ih.K _ _ _ _ h n (by omega)
    · intro acc ws ks r h m' hm
      obtain ⟨n, rfl⟩ : ∃ n, m' = n + 1 := ⟨m' - 1, by omega⟩
      rw [rdK_eq] at h ⊢
      rw [Option.bind_eq_some_iff] at h
      obtain ⟨⟨x, r1⟩, a, b⟩ := h
      obtain ⟨_, l2, _, _⟩ := ls.L _ _ _ _ (by omega) a
      rw [ih.L _ _ _ _ (by omega) (by omega) a n (by omega)]
      dsimp only at b
      show (if isT (r1 ++ t) rpS = true then some (acc ++ [x], (r1 ++ t).tail) else if isT (r1 ++ t) cmS = true then rdK nm n (acc ++ [x]) (r1 ++ t).tail else none) = _
      split at b
      · rename_i hr
        obtain ⟨i1, i2⟩ := isT_more t hr
        rw [if_pos i1, i2]
        injection b with b; injection b with b1 b2; subst b1; subst b2
        rfl
      · rename_i hr
        split at b
        · rename_i hc
          obtain ⟨i1, i2⟩ := isT_more t hc
          rw [isT_same t hc, if_neg hr, if_pos i1, i2]
          obtain ⟨w2, r2, rfl, _⟩ := isT_cons hc
          rw [List.length_cons] at l2
          exact ih.K _ _ _ _ b n (by dsimp only [List.tail_cons]; omega)
        · cases b
/-- A bracket around what is read. -/
theorem rd_bracket {nm : ByteArray → Int} {m : Nat} {ws t : List W} {e : E} (h : rdL nm m 1 ws = some (e, [])) (hl : ws.length + t.length ≤ 596) (ht : TB t) :
    rdL nm 6100 1 ((3, lpS) :: (ws ++ (3, rpS) :: t)) = some (e, t) := by
  have hT : ∀ k, 10 * ((3, lpS) :: (ws ++ (3, rpS) :: t)).length + 4 ≤ k → rdT nm k ((3, lpS) :: (ws ++ (3, rpS) :: t)) = some (e, t) := by
    intro k hk
    rw [List.length_cons, List.length_append, List.length_cons] at hk
    obtain ⟨j, rfl⟩ : ∃ j, k = j + 2 := ⟨k - 2, by omega⟩
    rw [rdT_ahead aheadAt_lp, rdW_eq, if_pos rfl, (rd_ext nm (TB.rp t) m).L _ _ _ _ (by omega) (by omega) h j (by omega)]
    show (if isT ((3, rpS) :: t) rpS = true then some (e, t) else none) = _
    rw [if_pos (isT_yes rfl)]
  obtain ⟨m', h1, h2⟩ := lift5 hT (by rw [List.length_cons, List.length_append, List.length_cons]; omega) 3 1 (by omega) (by omega) ⟨ht.1, fun l _ _ => ht.2 l⟩ 6100 (by rw [List.length_cons, List.length_append, List.length_cons]; omega)
  rw [h2, rdO_stop (by omega) (ht.2 1)]
theorem rdL_tight {nm : ByteArray → Int} : ∀ (m l : Nat) (ws r : List W) (e : E), rdL nm m l ws = some (e, r) → ∃ n p, rdT nm n ws = some p
  | 0, _, _, _, _, h => by cases h
  | m + 1, l, ws, r, e, h => by
    have h' : (if 4 < l then rdT nm m ws else (rdL nm m (l + 1) ws).bind fun p => rdO nm m l p.1 p.2) = some (e, r) := h
    split at h'
    · exact ⟨m, _, h'⟩
    · rw [Option.bind_eq_some_iff] at h'
      obtain ⟨⟨x, r1⟩, a, _⟩ := h'
      exact rdL_tight m _ _ _ _ a
/-- A bracket that is not closed. -/
theorem rd_open {nm : ByteArray → Int} {m n l : Nat} {ws r : List W} {e e' : E} (h : rdL nm m 1 ws = some (e, [])) (h' : rdL nm n l ((3, lpS) :: ws) = some (e', r)) : False := by
  obtain ⟨k, p, hT⟩ := rdL_tight _ _ _ _ _ h'
  cases k with
  | zero => cases hT
  | succ k =>
    rw [rdT_ahead aheadAt_lp] at hT
    cases k with
    | zero => cases hT
    | succ k =>
      rw [rdW_eq, if_pos rfl, Option.bind_eq_some_iff] at hT
      obtain ⟨⟨x, r1⟩, a, b⟩ := hT
      have e1 := (rd_ext nm TB.nil m).L _ _ _ _ (by omega) (by omega) h (10 * ws.length + 10) (by omega)
      have e2 := (rd_ext nm TB.nil k).L _ _ _ _ (by omega) (by omega) a (10 * ws.length + 10) (by omega)
      rw [e1] at e2
      injection e2 with e2
      injection e2 with _ e2
      rw [List.append_nil, List.append_nil] at e2
      subst e2
      cases b
/-- A bracket behind. -/
theorem rd_behind {nm : ByteArray → Int} {m : Nat} {ws : List W} {e : E} (h : rdL nm m 1 ws = some (e, [])) (hl : ws.length ≤ 600) : rdL nm 6100 1 (ws ++ [(3, rpS)]) = some (e, [(3, rpS)]) :=
  (rd_ext nm (TB.rp []) m).L _ _ _ _ (by omega) (by omega) h 6100 (by omega)
/-- A sign behind. -/
theorem cutL_sign (n : Nat) : ∀ (a : List UInt8), a.length ≤ n → ∀ (b : UInt8) (c : List UInt8), cls b.toNat = 3 → cutL (a ++ b :: c) = both (cutL a) (cutL (b :: c)) := by
  induction n with
  | zero =>
    intro a ha b c hb
    have : a = [] := List.eq_nil_of_length_eq_zero (by omega)
    subst this
    rw [List.nil_append, cutL_nil, both_nil]
  | succ n ih =>
    intro a ha b c hb
    cases a with
    | nil => rw [List.nil_append, cutL_nil, both_nil]
    | cons x r =>
      rw [List.length_cons] at ha
      rw [List.cons_append, cutL_cons x (r ++ b :: c), cutL_cons x r]
      by_cases h4 : cls x.toNat = 4
      · rw [if_pos h4, if_pos h4, ih r (by omega) b c hb]
      · have hg : goCls (cls x.toNat) b = false := by
          by_cases h3 : cls x.toNat = 3
          · rw [h3]; exact goCls_sign b
          · exact goCls_no (by rw [hb]; exact fun e => h3 e.symm)
        have hs := takeWhile_stop (goCls (cls x.toNat)) c hg r
        have hd := dropWhile_le (goCls (cls x.toNat)) r
        rw [if_neg h4, if_neg h4, hs.1, hs.2, ih _ (by omega) b c hb]
        by_cases hv : cls x.toNat ≠ 0 ∧ validB (wordKind ⟨(x :: r.takeWhile (goCls (cls x.toNat))).toArray⟩ (cls x.toNat)) ⟨(x :: r.takeWhile (goCls (cls x.toNat))).toArray⟩ = true
        · rw [if_pos hv, if_pos hv, both_map]
        · rw [if_neg hv, if_neg hv, both_none]
theorem cutL_lp (l : List UInt8) {ws : List W} (h : cutL l = some ws) : cutL (40 :: l) = some ((3, lpS) :: ws) := by
  have h1 := cutL_front (z := 3) (t := lpS) (r := l) valid_lp (fun b _ _ => goCls_sign b)
  rw [h] at h1
  exact h1
theorem cutL_rp (l : List UInt8) {ws : List W} (h : cutL l = some ws) : cutL (l ++ [41]) = some (ws ++ [(3, rpS)]) := by
  rw [cutL_sign l.length l (Nat.le_refl _) 41 [] (by decide), h]
  have h1 := cutL_front (z := 3) (t := rpS) (r := []) valid_rp (fun b _ _ => goCls_sign b)
  have h2 : cutL [41] = some [(3, rpS)] := h1
  rw [h2]
  rfl
theorem cutRes_list {s : ByteArray} {ws : List W} (h : cutRes s = (ws, true)) : cutL s.data.toList = some ws ∧ s.size ≤ 3000 ∧ ws.length ≤ 600 := by
  obtain ⟨a, b, c⟩ := cutRes_inv h
  rw [cut_list] at b
  exact ⟨b, a, c⟩
theorem cutRes_of {s : ByteArray} {ws : List W} (h : cutL s.data.toList = some ws) (hs : s.size ≤ 3000) (hl : ws.length ≤ 600) : cutRes s = (ws, true) := cutRes_yes hs (by rw [cut_list]; exact h) hl
theorem readF_ok' {s : ByteArray} {ws : List W} (h : cutRes s = (ws, true)) : readF s = readW ws := by unfold readF; rw [h]; rfl
/-- What brackets do to a text that is read. -/
theorem round_read {s : ByteArray} {e : E} {ws : List W} (h : readF s = (e, true)) (hc : cutRes s = (ws, true)) (hl : ws.length ≤ 590) (hs : s.size + 4 ≤ 3000) :
    readF (⟨#[40]⟩ ++ s ++ ⟨#[41]⟩) = (e, true) ∧ readF (⟨#[40, 40]⟩ ++ s ++ ⟨#[41, 41]⟩) = (e, true) ∧ (readF (⟨#[40]⟩ ++ s)).2 = false ∧ (readF (s ++ ⟨#[41]⟩)).2 = false := by
  obtain ⟨hv, ws', hc', hr, _⟩ := readF_yes h
  rw [hc] at hc'
  injection hc' with hw _
  subst hw
  obtain ⟨hL, _, _⟩ := cutRes_list hc
  have d1 : (⟨#[40]⟩ ++ s ++ ⟨#[41]⟩ : ByteArray).data.toList = 40 :: (s.data.toList ++ [41]) := by simp
  have d2 : (⟨#[40, 40]⟩ ++ s ++ ⟨#[41, 41]⟩ : ByteArray).data.toList = 40 :: (40 :: (s.data.toList ++ [41]) ++ [41]) := by simp
  have d3 : (⟨#[40]⟩ ++ s : ByteArray).data.toList = 40 :: s.data.toList := by simp
  have d4 : (s ++ ⟨#[41]⟩ : ByteArray).data.toList = s.data.toList ++ [41] := by simp
  have z1 : (⟨#[40]⟩ ++ s ++ ⟨#[41]⟩ : ByteArray).size ≤ 3000 := by rw [ByteArray.size_append, ByteArray.size_append]; show 1 + s.size + 1 ≤ 3000; omega
  have z2 : (⟨#[40, 40]⟩ ++ s ++ ⟨#[41, 41]⟩ : ByteArray).size ≤ 3000 := by rw [ByteArray.size_append, ByteArray.size_append]; show 2 + s.size + 2 ≤ 3000; omega
  have z3 : (⟨#[40]⟩ ++ s : ByteArray).size ≤ 3000 := by rw [ByteArray.size_append]; show 1 + s.size ≤ 3000; omega
  have z4 : (s ++ ⟨#[41]⟩ : ByteArray).size ≤ 3000 := by rw [ByteArray.size_append]; show s.size + 1 ≤ 3000; omega
  have c1 := cutL_lp _ (cutL_rp _ hL)
  have c2 := cutL_lp _ (cutL_rp _ c1)
  have c3 := cutL_lp _ hL
  have c4 := cutL_rp _ hL
  have r1 := rd_bracket (t := []) hr (by simp; omega) TB.nil
  have hr2 : rdL nmB 6100 1 ((3, lpS) :: (ws ++ [(3, rpS)])) = some (e, []) := r1
  have r2 := rd_bracket (t := []) hr2 (by simp; omega) TB.nil
  refine ⟨?_, ?_, ?_, ?_⟩
  · rw [readF_ok' (cutRes_of (by rw [d1]; exact c1) z1 (by simp; omega))]
    unfold readW
    rw [hr2]
    dsimp only
    rw [if_pos hv]
  · rw [readF_ok' (cutRes_of (by rw [d2]; exact c2) z2 (by simp; omega))]
    unfold readW
    rw [show rdL nmB 6100 1 ((3, lpS) :: (((3, lpS) :: (ws ++ [(3, rpS)])) ++ [(3, rpS)])) = some (e, []) from r2]
    dsimp only
    rw [if_pos hv]
  · rw [readF_ok' (cutRes_of (by rw [d3]; exact c3) z3 (by simp; omega))]
    cases hq : readW ((3, lpS) :: ws) with
    | mk x b =>
      cases b
      · rfl
      · exact (rd_open hr (readW_yes hq).1).elim
  · rw [readF_ok' (cutRes_of (by rw [d4]; exact c4) z4 (by simp; omega))]
    unfold readW
    rw [rd_behind hr (by omega)]
end Go.Proofs.YtljdbjfbcjigaaaGreatDoor
