/-
  Plain mathematics: how many words a text has at most.
-/
import Derived.Test.YtkhcfhhejmkikaaGreatDoorMg18
namespace Go.Proofs.YtkhcfhhejmkikaaGreatDoor
open Go.RowKit

/-- The class of the bytes of a valid word. -/
def clsW (z : Int) : Int := if z = 4 then 1 else z
open Classical in
theorem valid_parts {z : Int} {t : ByteArray} (h : validB z t = true) :
    ∃ b r, t.data.toList = b :: r ∧ clsW z ≠ 4 ∧ clsW z ≠ 0 ∧ cls b.toNat = clsW z ∧ (r = [] ∨ (clsW z < 3 ∧ ∀ x ∈ r, cls x.toNat = clsW z)) ∧ wordKind t (clsW z) = z := by
  have hv := h
  have nokey : ∀ {b : UInt8} {r : List UInt8}, t.data.toList = b :: r → cls b.toNat ≠ 1 → isKeyB t = false := by
    intro b r ht hb
    rw [Bool.eq_false_iff]
    intro hk
    obtain ⟨h0, hc⟩ := key_letter hk
    obtain ⟨b', r', ht', hg⟩ := nonempty_cons h0
    rw [ht] at ht'
    injection ht' with e1 e2
    rw [hg h0, ← e1] at hc
    exact hb hc
  unfold validB at h
  split at h
  · subst_vars
    unfold nameB at h
    simp only [Bool.and_eq_true, decide_eq_true_eq, Bool.not_eq_true'] at h
    obtain ⟨⟨ha, _⟩, hk⟩ := h
    unfold allB at ha
    replace ha := of_decide_eq_true ha
    obtain ⟨b, r, ht, hg⟩ := nonempty_cons ha.1
    have hall : ∀ x ∈ t.data.toList, cls x.toNat = 1 := by
      intro x hx
      obtain ⟨j, hj, rfl⟩ := mem_iff_get.1 hx
      exact ha.2 j hj hj
    rw [ht] at hall
    exact ⟨b, r, ht, by decide, by decide, hall b (List.mem_cons_self ..), .inr ⟨by decide, fun x hx => hall x (List.mem_cons_of_mem _ hx)⟩, by unfold wordKind; rw [hk]; rfl⟩
  · split at h
    · subst_vars
      rw [decide_eq_true_eq] at h
      unfold numB at h
      split at h
      · rename_i hc
        have hcan := hc.1
        unfold canon at hcan
        simp only [Bool.and_eq_true] at hcan
        have hall : ∀ x ∈ t.data.toList, cls x.toNat = 2 := fun x hx => isDig_cls (List.all_eq_true.1 hcan.1.2 x hx)
        have h0 : 0 < t.size := by
          rw [← len_list]
          cases hd : t.data.toList with
          | nil => rw [hd] at hcan; simp at hcan
          | cons _ _ => simp
        obtain ⟨b, r, ht, hg⟩ := nonempty_cons h0
        rw [ht] at hall
        have hb := hall b (List.mem_cons_self ..)
        exact ⟨b, r, ht, by decide, by decide, hb, .inr ⟨by decide, fun x hx => hall x (List.mem_cons_of_mem _ hx)⟩, by unfold wordKind; rw [nokey ht (by omega)]; rfl⟩
      · omega
    · split at h
      · subst_vars
        unfold signB at h
        split at h
        · rename_i h1
          rw [beq_iff_eq] at h
          obtain ⟨b, r, ht, hg⟩ := nonempty_cons (t := t) (by omega)
          rw [hg] at h
          have hr : r = [] := by
            have := len_list t
            rw [ht, List.length_cons] at this
            exact List.eq_nil_of_length_eq_zero (by omega)
          exact ⟨b, r, ht, by decide, by decide, h, .inl hr, by unfold wordKind; rw [nokey ht (by omega)]; rfl⟩
        · cases h
      · split at h
        · subst_vars
          obtain ⟨h0, _⟩ := key_letter h
          obtain ⟨b, r, ht, hg⟩ := nonempty_cons h0
          have hall : ∀ x ∈ t.data.toList, cls x.toNat = 1 := by
            obtain ⟨k, hk, rfl⟩ := (isKeyB_iff t).1 h
            exact key_letters k hk
          rw [ht] at hall
          exact ⟨b, r, ht, by decide, by decide, hall b (List.mem_cons_self ..), .inr ⟨by decide, fun x hx => hall x (List.mem_cons_of_mem _ hx)⟩, by unfold wordKind; rw [h]; rfl⟩
        · cases h
theorem takeWhile_front (p : UInt8 → Bool) (r : List UInt8) (hr : ∀ b r', r = b :: r' → p b = false) : ∀ l : List UInt8, (∀ x ∈ l, p x = true) → (l ++ r).takeWhile p = l ∧ (l ++ r).dropWhile p = r
  | [], _ => by
    rw [List.nil_append]
    cases r with
    | nil => exact ⟨rfl, rfl⟩
    | cons b r' => rw [List.takeWhile_cons, List.dropWhile_cons, hr b r' rfl]; exact ⟨rfl, rfl⟩
  | a :: l, h => by
    have ih := takeWhile_front p r hr l (fun x hx => h x (List.mem_cons_of_mem _ hx))
    have ha := h a (List.mem_cons_self ..)
    rw [List.cons_append, List.takeWhile_cons, List.dropWhile_cons, if_pos ha, if_pos ha, ih.1, ih.2]
    exact ⟨rfl, rfl⟩
theorem cutL_front {z : Int} {t : ByteArray} {r : List UInt8} (hv : validB z t = true) (hr : ∀ b r', r = b :: r' → goCls (clsW z) b = false) :
    cutL (t.data.toList ++ r) = (cutL r).map ((z, t) :: ·) := by
  obtain ⟨b, r0, ht, h4, h0, hb, hr0, hk⟩ := valid_parts hv
  have hp : ∀ x ∈ r0, goCls (clsW z) x = true := by
    intro x hx
    rcases hr0 with rfl | ⟨h3, hr0⟩
    · cases hx
    · unfold goCls
      rw [hr0 x hx, decide_eq_true h3]
      simp
  have hw := takeWhile_front (goCls (clsW z)) r hr r0 hp
  have ht' : (⟨(b :: r0).toArray⟩ : ByteArray) = t := by rw [← ht]
  rw [ht, List.cons_append, cutL_cons, hb, hw.1, hw.2, ht', hk, if_neg h4, if_pos ⟨h0, hv⟩]
theorem goCls_sign (b : UInt8) : goCls 3 b = false := by unfold goCls; simp
def kindAt (ws : List (Int × ByteArray)) (k : Nat) : Int := (ws.getD k (0, ByteArray.empty)).1
def textAt (ws : List (Int × ByteArray)) (k : Nat) : ByteArray := (ws.getD k (0, ByteArray.empty)).2
theorem kindAt_eq {ws : List (Int × ByteArray)} {k : Nat} (h : k < ws.length) : kindAt ws k = ws[k].1 := by
  unfold kindAt; rw [List.getD_eq_getElem?_getD, List.getElem?_eq_getElem h, Option.getD_some]
theorem textAt_eq {ws : List (Int × ByteArray)} {k : Nat} (h : k < ws.length) : textAt ws k = ws[k].2 := by
  unfold textAt; rw [List.getD_eq_getElem?_getD, List.getElem?_eq_getElem h, Option.getD_some]
/-- The first k words, with a blank only between two that are no signs. -/
def tB (ws : List (Int × ByteArray)) : Nat → ByteArray
  | 0 => ⟨#[]⟩
  | k + 1 => if 0 < k ∧ kindAt ws k ≠ 3 ∧ kindAt ws (k - 1) ≠ 3 then tB ws k ++ ⟨#[32]⟩ ++ textAt ws k else tB ws k ++ textAt ws k
theorem both_snoc (x : Int × ByteArray) (a : List (Int × ByteArray)) (b : Option (List (Int × ByteArray))) : both (some a) (b.map (x :: ·)) = both (some (a ++ [x])) b := by
  cases b with
  | none => rfl
  | some y => show some (a ++ x :: y) = some (a ++ [x] ++ y); rw [List.append_assoc]; rfl
theorem cut_tight {ws : List (Int × ByteArray)} (hv : ∀ x ∈ ws, validB x.1 x.2 = true) : ∀ (k : Nat) (rest : List UInt8), k ≤ ws.length →
    (0 < k → ∀ b r', rest = b :: r' → goCls (clsW (kindAt ws (k - 1))) b = false) → cutL ((tB ws k).data.toList ++ rest) = both (some (ws.take k)) (cutL rest)
  | 0, rest, _, _ => by
    show cutL ([] ++ rest) = _
    rw [List.nil_append, List.take_zero, both_nil]
  | k + 1, rest, hk, hr => by
    have hk' : k < ws.length := hk
    have hvk := hv _ (List.getElem_mem hk')
    have hlast : ∀ b r', rest = b :: r' → goCls (clsW ws[k].1) b = false := by
      have h := hr (Nat.succ_pos k)
      rw [Nat.add_sub_cancel, kindAt_eq hk'] at h
      exact h
    have hf := cutL_front hvk hlast
    by_cases hs : 0 < k ∧ kindAt ws k ≠ 3 ∧ kindAt ws (k - 1) ≠ 3
    · have e : tB ws (k + 1) = tB ws k ++ ⟨#[32]⟩ ++ textAt ws k := by show (if _ then _ else _) = _; rw [if_pos hs]
      have e2 : (tB ws (k + 1)).data.toList ++ rest = (tB ws k).data.toList ++ (32 :: (ws[k].2.data.toList ++ rest)) := by
        rw [e, textAt_eq hk', ByteArray.data_append, ByteArray.data_append, Array.toList_append, Array.toList_append]
        show (tB ws k).data.toList ++ [32] ++ _ ++ rest = _
        simp
      have hc : ∀ c : Int, c ≠ 4 → goCls c 32 = false := fun c hc => goCls_no (by intro e; exact hc (e ▸ (by decide)))
      have hne : clsW (kindAt ws (k - 1)) ≠ 4 := by
        rw [kindAt_eq (by omega)]
        obtain ⟨_, _, _, h4, _⟩ := valid_parts (hv _ (List.getElem_mem (show k - 1 < ws.length by omega)))
        exact h4
      rw [e2, cut_tight hv k _ (by omega) (fun _ b r' hb => by injection hb with h1 h2; rw [← h1]; exact hc _ hne), cutL_blank (by decide), hf, both_snoc, List.take_succ_eq_append_getElem hk']
    · have e : tB ws (k + 1) = tB ws k ++ textAt ws k := by show (if _ then _ else _) = _; rw [if_neg hs]
      have e2 : (tB ws (k + 1)).data.toList ++ rest = (tB ws k).data.toList ++ (ws[k].2.data.toList ++ rest) := by
        rw [e, textAt_eq hk', ByteArray.data_append, Array.toList_append, List.append_assoc]
      rw [e2, cut_tight hv k _ (by omega) (fun h0 b r' hb => ?_), hf, both_snoc, List.take_succ_eq_append_getElem hk']
      obtain ⟨b0, r0, ht, _, _, hc0, _⟩ := valid_parts hvk
      rw [ht, List.cons_append] at hb
      injection hb with h1 h2
      rw [← h1]
      by_cases h3 : clsW (kindAt ws (k - 1)) = 3
      · rw [h3]; exact goCls_sign _
      · apply goCls_no
        rw [hc0]
        intro e3
        by_cases hk3 : kindAt ws k = 3
        · rw [kindAt_eq hk'] at hk3
          rw [hk3] at e3
          exact h3 (e3 ▸ rfl)
        · have : kindAt ws (k - 1) = 3 := by
            by_cases hx : kindAt ws (k - 1) = 3
            · exact hx
            · exact absurd ⟨h0, hk3, hx⟩ hs
          rw [this] at h3
          exact h3 rfl
theorem tB_size {ws : List (Int × ByteArray)} (hv : ∀ x ∈ ws, validB x.1 x.2 = true) : ∀ k, k ≤ ws.length → (tB ws k).size ≤ 5 * k
  | 0, _ => Nat.le_refl _
  | k + 1, hk => by
    have ih := tB_size hv k (by omega)
    have h4 := validB_size (hv _ (List.getElem_mem (show k < ws.length from hk)))
    have e1 : (⟨#[32]⟩ : ByteArray).size = 1 := rfl
    show (if _ then _ else _ : ByteArray).size ≤ _
    rw [textAt_eq (show k < ws.length from hk)]
    split
    · rw [ByteArray.size_append, ByteArray.size_append]; omega
    · rw [ByteArray.size_append]; omega
theorem cutRes_tight {ws : List (Int × ByteArray)} (hv : ∀ x ∈ ws, validB x.1 x.2 = true) (hl : ws.length ≤ 20) : cutRes (tB ws ws.length) = (ws, true) := by
  have hs := tB_size hv ws.length (Nat.le_refl _)
  have h := cut_tight hv ws.length [] (Nat.le_refl _) (fun _ b r' hb => by cases hb)
  rw [List.append_nil, cutL_nil, List.take_of_length_le (Nat.le_refl _)] at h
  refine cutRes_yes (by omega) ?_ (by omega)
  rw [cut_list, h]
  show some (ws ++ []) = _
  rw [List.append_nil]
theorem plain_tight {ws : List (Int × ByteArray)} (hv : ∀ x ∈ ws, validB x.1 x.2 = true) (hl : ws.length ≤ 20) : plainF (tB ws ws.length) = joinF ws := by
  unfold plainF
  rw [cutRes_tight hv hl]
  rfl
theorem tB_sep {ws : List (Int × ByteArray)} {k : Nat} (hk : k < ws.length) (h0 : 0 < k) (h1 : ws[k].1 ≠ 3) (h2 : (ws[k - 1]'(by omega)).1 ≠ 3) : tB ws (k + 1) = tB ws k ++ ⟨#[32]⟩ ++ ws[k].2 := by
  show (if _ then _ else _) = _
  rw [if_pos ⟨h0, by rw [kindAt_eq hk]; exact h1, by rw [kindAt_eq (by omega)]; exact h2⟩, textAt_eq hk]
theorem tB_nosep {ws : List (Int × ByteArray)} {k : Nat} (hk : k < ws.length) (h : k = 0 ∨ ws[k].1 = 3 ∨ ∃ h : k - 1 < ws.length, ws[k - 1].1 = 3) : tB ws (k + 1) = tB ws k ++ ws[k].2 := by
  show (if _ then _ else _) = _
  rw [if_neg, textAt_eq hk]
  rintro ⟨h0, h1, h2⟩
  rw [kindAt_eq hk] at h1
  rcases h with h | h | ⟨hh, h⟩
  · omega
  · exact h1 h
  · rw [kindAt_eq hh] at h2; exact h2 h
end Go.Proofs.YtkhcfhhejmkikaaGreatDoor

namespace Go.Proofs.YtkhcfhhejmkikaaGreatDoor
open Go.RowKit

/-- What ends an expression. -/
def TB (t : List W) : Prop := isT t lpS = false ∧ ∀ l, opAt l t = none
theorem TB.nil : TB [] := ⟨rfl, fun _ => opAt_none fun _ _ _ _ => rfl⟩
theorem TB.rp (r : List W) : TB ((3, rpS) :: r) := ⟨isT_no (by decide), fun l => opAt_rp l 3 r⟩
theorem isT_more {ws : List W} {s : ByteArray} (t : List W) (h : isT ws s = true) : isT (ws ++ t) s = true ∧ (ws ++ t).tail = ws.tail ++ t := by
  obtain ⟨w, r, rfl, _⟩ := isT_cons h
  exact ⟨h, rfl⟩
theorem isT_same {ws : List W} {s s' : ByteArray} (t : List W) (h : isT ws s = true) : isT (ws ++ t) s' = isT ws s' := by
  obtain ⟨w, r, rfl, _⟩ := isT_cons h
  rfl
structure RdExt (nm : ByteArray → Int) (t : List W) (m : Nat) : Prop where
  L : ∀ l ws e r, 1 ≤ l → l ≤ 5 → rdL nm m l ws = some (e, r) → ∀ m', 10 * ws.length + 10 ≤ m' + l → rdL nm m' l (ws ++ t) = some (e, r ++ t)
  O : ∀ l x ws e r, 1 ≤ l → l ≤ 4 → rdO nm m l x ws = some (e, r) → ∀ m', 10 * ws.length + 1 ≤ m' → rdO nm m' l x (ws ++ t) = some (e, r ++ t)
  T : ∀ ws e r, rdT nm m ws = some (e, r) → ∀ m', 10 * ws.length + 4 ≤ m' → rdT nm m' (ws ++ t) = some (e, r ++ t)
  W : ∀ ws e r, rdW nm m ws = some (e, r) → ∀ m', 10 * ws.length + 3 ≤ m' → rdW nm m' (ws ++ t) = some (e, r ++ t)
  C : ∀ ws ks r, rdC nm m ws = some (ks, r) → ∀ m', 10 * ws.length + 11 ≤ m' → rdC nm m' (ws ++ t) = some (ks, r ++ t)
  K : ∀ acc ws ks r, rdK nm m acc ws = some (ks, r) → ∀ m', 10 * ws.length + 10 ≤ m' → rdK nm m' acc (ws ++ t) = some (ks, r ++ t)
theorem rd_ext (nm : ByteArray → Int) {t : List W} (ht : TB t) : ∀ m, RdExt nm t m
  | 0 => ⟨fun _ _ _ _ _ _ h => (by cases h), fun _ _ _ _ _ _ _ h => (by cases h), fun _ _ _ h => (by cases h), fun _ _ _ h => (by cases h), fun _ _ _ h => (by cases h), fun _ _ _ _ h => (by cases h)⟩
  | m + 1 => by
    have ih := rd_ext nm ht m
    have ls := rd_less nm m
    refine ⟨?_, ?_, ?_, ?_, ?_, ?_⟩
    · intro l ws e r h1 hl h m' hm
      have h' : (if 4 < l then rdT nm m ws else (rdL nm m (l + 1) ws).bind fun p => rdO nm m l p.1 p.2) = some (e, r) := h
      obtain ⟨n, rfl⟩ : ∃ n, m' = n + 1 := ⟨m' - 1, by omega⟩
      show (if 4 < l then rdT nm n (ws ++ t) else (rdL nm n (l + 1) (ws ++ t)).bind fun p => rdO nm n l p.1 p.2) = _
      split at h'
      · rename_i h4
        rw [if_pos h4]
        exact ih.T _ _ _ h' n (by omega)
      · rename_i h4
        rw [if_neg h4]
        rw [Option.bind_eq_some_iff] at h'
        obtain ⟨⟨x, r1⟩, a, b⟩ := h'
        obtain ⟨_, l2, _, _⟩ := ls.L _ _ _ _ (by omega) a
        rw [ih.L _ _ _ _ (by omega) (by omega) a n (by omega)]
        exact ih.O _ _ _ _ _ h1 (by omega) b n (by first | omega | (dsimp only; omega))
    · intro l x ws e r h1 hl h m' hm
      have h' : (match opAt l ws with
        | none => some (x, ws)
        | some op => (rdL nm m (l + 1) ws.tail).bind fun p => rdO nm m l (binE op x p.1) p.2) = some (e, r) := h
      obtain ⟨n, rfl⟩ : ∃ n, m' = n + 1 := ⟨m' - 1, by omega⟩
      show (match opAt l (ws ++ t) with
        | none => some (x, ws ++ t)
        | some op => (rdL nm n (l + 1) (ws ++ t).tail).bind fun p => rdO nm n l (binE op x p.1) p.2) = _
      split at h'
      · rename_i ho
        injection h' with h'; injection h' with e1 e2; subst e1; subst e2
        have ho' : opAt l (ws ++ t) = none := by
          cases ws with
          | nil => exact ht.2 l
          | cons w r => exact ho
        rw [ho']
      · rename_i op hop
        obtain ⟨_, _, _, o4⟩ := opAt_some hop
        obtain ⟨w, ws', rfl, ow⟩ := isT_cons o4
        have ho' : opAt l (w :: ws' ++ t) = some op := hop
        rw [ho']
        rw [Option.bind_eq_some_iff] at h'
        obtain ⟨⟨y, r1⟩, a, b⟩ := h'
        dsimp only [List.tail_cons] at a b
        obtain ⟨_, l2, _, _⟩ := ls.L _ _ _ _ (by omega) a
        rw [List.length_cons] at hm
        show ((rdL nm n (l + 1) (ws' ++ t)).bind fun p => rdO nm n l (binE op x p.1) p.2) = _
        rw [ih.L _ _ _ _ (by omega) (by omega) a n (by omega)]
        exact ih.O _ _ _ _ _ h1 hl b n (by first | omega | (dsimp only; omega))
    · intro ws e r h m' hm
      have h' : (match aheadAt ws with
        | some op => (rdT nm m ws.tail).bind fun p => some (unE op p.1, p.2)
        | none => rdW nm m ws) = some (e, r) := h
      obtain ⟨n, rfl⟩ : ∃ n, m' = n + 1 := ⟨m' - 1, by omega⟩
      show (match aheadAt (ws ++ t) with
        | some op => (rdT nm n (ws ++ t).tail).bind fun p => some (unE op p.1, p.2)
        | none => rdW nm n (ws ++ t)) = _
      split at h'
      · rename_i op hop
        obtain ⟨o1, o4⟩ := aheadAt_some hop
        obtain ⟨w, ws', rfl, ow⟩ := isT_cons o4
        have ho' : aheadAt (w :: ws' ++ t) = some op := hop
        rw [ho']
        rw [Option.bind_eq_some_iff] at h'
        obtain ⟨⟨x, r1⟩, a, b⟩ := h'
        injection b with b; injection b with b1 b2; subst b1; subst b2
        rw [List.length_cons] at hm
        show ((rdT nm n (ws' ++ t)).bind fun p => some (unE op p.1, p.2)) = _
        have a' : rdT nm m ws' = some (x, r1) := a
        rw [ih.T _ _ _ a' n (by omega)]
        rfl
      · rename_i hop
        have hne : ws ≠ [] := by
          rintro rfl
          cases m with
          | zero => cases h'
          | succ m => cases h'
        have ho' : aheadAt (ws ++ t) = none := by
          cases ws with
          | nil => exact absurd rfl hne
          | cons w r => exact hop
        rw [ho']
        exact ih.W _ _ _ h' n (by omega)
    · intro ws e r h m' hm
      obtain ⟨n, rfl⟩ : ∃ n, m' = n + 1 := ⟨m' - 1, by omega⟩
      cases ws with
      | nil => cases h
      | cons w ws =>
        rw [rdW_eq] at h
        rw [List.length_cons] at hm
        show rdW nm (n + 1) (w :: (ws ++ t)) = _
        rw [rdW_eq]
        split at h
        · rename_i hw
          rw [if_pos hw]
          rw [Option.bind_eq_some_iff] at h
          obtain ⟨⟨x, r1⟩, a, b⟩ := h
          dsimp only at b
          split at b
          · rename_i hr
            injection b with b; injection b with b1 b2; subst b1; subst b2
            rw [ih.L _ _ _ _ (by omega) (by omega) a n (by omega)]
            obtain ⟨i1, i2⟩ := isT_more t hr
            show (if isT (r1 ++ t) rpS = true then some (x, (r1 ++ t).tail) else none) = _
            rw [if_pos i1, i2]
          · cases b
        · rename_i hw
          rw [if_neg hw]
          split at h
          · rename_i h2
            rw [if_pos h2]
            injection h with h; injection h with b1 b2; subst b1; subst b2
            rfl
          · rename_i h2
            rw [if_neg h2]
            split at h
            · rename_i h3
              rw [if_pos h3]
              split at h
              · rename_i hl
                obtain ⟨i1, i2⟩ := isT_more t hl
                obtain ⟨w2, r2, rfl, _⟩ := isT_cons hl
                rw [if_pos i1, i2]
                rw [Option.bind_eq_some_iff] at h
                obtain ⟨⟨ks, r1⟩, a, b⟩ := h
                injection b with b; injection b with b1 b2; subst b1; subst b2
                rw [List.length_cons] at hm
                rw [ih.C _ _ _ a n (by dsimp only [List.tail_cons]; omega)]
                rfl
              · rename_i hl
                injection h with h; injection h with b1 b2; subst b1; subst b2
                have hl' : isT (ws ++ t) lpS = false := by
                  cases ws with
                  | nil => exact ht.1
                  | cons w2 r2 =>
                    have : isT (w2 :: r2) lpS = false := by simpa using hl
                    exact this
                rw [if_neg (by rw [hl']; simp)]
            · cases h
    · intro ws ks r h m' hm
      obtain ⟨n, rfl⟩ : ∃ n, m' = n + 1 := ⟨m' - 1, by omega⟩
      rw [rdC_eq] at h ⊢
      split at h
      · rename_i hr
        obtain ⟨i1, i2⟩ := isT_more t hr
        rw [if_pos i1, i2]
        injection h with h; injection h with b1 b2; subst b1; subst b2
        rfl
      · rename_i hr
        have hne : ws ≠ [] := by
          rintro rfl
          obtain ⟨_, l2, _⟩ := ls.K _ _ _ _ h
          simp at l2
        have hr' : ¬ isT (ws ++ t) rpS = true := by
          cases ws with
          | nil => exact absurd rfl hne
          | cons w2 r2 => exact hr
        rw [if_neg hr']
        exact ih.K _ _ _ _ h n (by omega)
    · intro acc ws ks r h m' hm
      obtain ⟨n, rfl⟩ : ∃ n, m' = n + 1 := ⟨m' - 1, by omega⟩
      rw [rdK_eq] at h ⊢
      rw [Option.bind_eq_some_iff] at h
      obtain ⟨⟨x, r1⟩, a, b⟩ := h
      obtain ⟨_, l2, _, _⟩ := ls.L _ _ _ _ (by omega) a
      rw [ih.L _ _ _ _ (by omega) (by omega) a n (by omega)]
      dsimp only at b
      show (if isT (r1 ++ t) rpS = true then some (acc ++ [x], (r1 ++ t).tail) else if isT (r1 ++ t) cmS = true then rdK nm n (acc ++ [x]) (r1 ++ t).tail else none) = _
      split at b
      · rename_i hr
        obtain ⟨i1, i2⟩ := isT_more t hr
        rw [if_pos i1, i2]
        injection b with b; injection b with b1 b2; subst b1; subst b2
        rfl
      · rename_i hr
        split at b
        · rename_i hc
          obtain ⟨i1, i2⟩ := isT_more t hc
          rw [isT_same t hc, if_neg hr, if_pos i1, i2]
          obtain ⟨w2, r2, rfl, _⟩ := isT_cons hc
          rw [List.length_cons] at l2
          exact ih.K _ _ _ _ b n (by dsimp only [List.tail_cons]; omega)
        · cases b
/-- A bracket around what is read. -/
theorem rd_bracket {nm : ByteArray → Int} {m : Nat} {ws t : List W} {e : E} (h : rdL nm m 1 ws = some (e, [])) (hl : ws.length + t.length ≤ 596) (ht : TB t) :
    rdL nm 6100 1 ((3, lpS) :: (ws ++ (3, rpS) :: t)) = some (e, t) := by
  have hT : ∀ k, 10 * ((3, lpS) :: (ws ++ (3, rpS) :: t)).length + 4 ≤ k → rdT nm k ((3, lpS) :: (ws ++ (3, rpS) :: t)) = some (e, t) := by
    intro k hk
    rw [List.length_cons, List.length_append, List.length_cons] at hk
    obtain ⟨j, rfl⟩ : ∃ j, k = j + 2 := ⟨k - 2, by omega⟩
    rw [rdT_ahead aheadAt_lp, rdW_eq, if_pos rfl, (rd_ext nm (TB.rp t) m).L _ _ _ _ (by omega) (by omega) h j (by omega)]
    show (if isT ((3, rpS) :: t) rpS = true then some (e, t) else none) = _
    rw [if_pos (isT_yes rfl)]
  obtain ⟨m', h1, h2⟩ := lift5 hT (by rw [List.length_cons, List.length_append, List.length_cons]; omega) 3 1 (by omega) (by omega) ⟨ht.1, fun l _ _ => ht.2 l⟩ 6100 (by rw [List.length_cons, List.length_append, List.length_cons]; omega)
  rw [h2, rdO_stop (by omega) (ht.2 1)]
theorem rdL_tight {nm : ByteArray → Int} : ∀ (m l : Nat) (ws r : List W) (e : E), rdL nm m l ws = some (e, r) → ∃ n p, rdT nm n ws = some p
  | 0, _, _, _, _, h => by cases h
  | m + 1, l, ws, r, e, h => by
    have h' : (if 4 < l then rdT nm m ws else (rdL nm m (l + 1) ws).bind fun p => rdO nm m l p.1 p.2) = some (e, r) := h
    split at h'
    · exact ⟨m, _, h'⟩
    · rw [Option.bind_eq_some_iff] at h'
      obtain ⟨⟨x, r1⟩, a, _⟩ := h'
      exact rdL_tight m _ _ _ _ a
/-- A bracket that is not closed. -/
theorem rd_open {nm : ByteArray → Int} {m n l : Nat} {ws r : List W} {e e' : E} (h : rdL nm m 1 ws = some (e, [])) (h' : rdL nm n l ((3, lpS) :: ws) = some (e', r)) : False := by
  obtain ⟨k, p, hT⟩ := rdL_tight _ _ _ _ _ h'
  cases k with
  | zero => cases hT
  | succ k =>
    rw [rdT_ahead aheadAt_lp] at hT
    cases k with
    | zero => cases hT
    | succ k =>
      rw [rdW_eq, if_pos rfl, Option.bind_eq_some_iff] at hT
      obtain ⟨⟨x, r1⟩, a, b⟩ := hT
      have e1 := (rd_ext nm TB.nil m).L _ _ _ _ (by omega) (by omega) h (10 * ws.length + 10) (by omega)
      have e2 := (rd_ext nm TB.nil k).L _ _ _ _ (by omega) (by omega) a (10 * ws.length + 10) (by omega)
      rw [e1] at e2
      injection e2 with e2
      injection e2 with _ e2
      rw [List.append_nil, List.append_nil] at e2
      subst e2
      cases b
/-- A bracket behind. -/
theorem rd_behind {nm : ByteArray → Int} {m : Nat} {ws : List W} {e : E} (h : rdL nm m 1 ws = some (e, [])) (hl : ws.length ≤ 600) : rdL nm 6100 1 (ws ++ [(3, rpS)]) = some (e, [(3, rpS)]) :=
  (rd_ext nm (TB.rp []) m).L _ _ _ _ (by omega) (by omega) h 6100 (by omega)
/-- A sign behind. -/
theorem cutL_sign (n : Nat) : ∀ (a : List UInt8), a.length ≤ n → ∀ (b : UInt8) (c : List UInt8), cls b.toNat = 3 → cutL (a ++ b :: c) = both (cutL a) (cutL (b :: c)) := by
  induction n with
  | zero =>
    intro a ha b c hb
    have : a = [] := List.eq_nil_of_length_eq_zero (by omega)
    subst this
    rw [List.nil_append, cutL_nil, both_nil]
  | succ n ih =>
    intro a ha b c hb
    cases a with
    | nil => rw [List.nil_append, cutL_nil, both_nil]
    | cons x r =>
      rw [List.length_cons] at ha
      rw [List.cons_append, cutL_cons x (r ++ b :: c), cutL_cons x r]
      by_cases h4 : cls x.toNat = 4
      · rw [if_pos h4, if_pos h4, ih r (by omega) b c hb]
      · have hg : goCls (cls x.toNat) b = false := by
          by_cases h3 : cls x.toNat = 3
          · rw [h3]; exact goCls_sign b
          · exact goCls_no (by rw [hb]; exact fun e => h3 e.symm)
        have hs := takeWhile_stop (goCls (cls x.toNat)) c hg r
        have hd := dropWhile_le (goCls (cls x.toNat)) r
        rw [if_neg h4, if_neg h4, hs.1, hs.2, ih _ (by omega) b c hb]
        by_cases hv : cls x.toNat ≠ 0 ∧ validB (wordKind ⟨(x :: r.takeWhile (goCls (cls x.toNat))).toArray⟩ (cls x.toNat)) ⟨(x :: r.takeWhile (goCls (cls x.toNat))).toArray⟩ = true
        · rw [if_pos hv, if_pos hv, both_map]
        · rw [if_neg hv, if_neg hv, both_none]
theorem cutL_lp (l : List UInt8) {ws : List W} (h : cutL l = some ws) : cutL (40 :: l) = some ((3, lpS) :: ws) := by
  have h1 := cutL_front (z := 3) (t := lpS) (r := l) valid_lp (fun b _ _ => goCls_sign b)
  rw [h] at h1
  exact h1
theorem cutL_rp (l : List UInt8) {ws : List W} (h : cutL l = some ws) : cutL (l ++ [41]) = some (ws ++ [(3, rpS)]) := by
  rw [cutL_sign l.length l (Nat.le_refl _) 41 [] (by decide), h]
  have h1 := cutL_front (z := 3) (t := rpS) (r := []) valid_rp (fun b _ _ => goCls_sign b)
  have h2 : cutL [41] = some [(3, rpS)] := h1
  rw [h2]
  rfl
theorem cutRes_list {s : ByteArray} {ws : List W} (h : cutRes s = (ws, true)) : cutL s.data.toList = some ws ∧ s.size ≤ 3000 ∧ ws.length ≤ 600 := by
  obtain ⟨a, b, c⟩ := cutRes_inv h
  rw [cut_list] at b
  exact ⟨b, a, c⟩
theorem cutRes_of {s : ByteArray} {ws : List W} (h : cutL s.data.toList = some ws) (hs : s.size ≤ 3000) (hl : ws.length ≤ 600) : cutRes s = (ws, true) := cutRes_yes hs (by rw [cut_list]; exact h) hl
theorem readF_ok' {s : ByteArray} {ws : List W} (h : cutRes s = (ws, true)) : readF s = readW ws := by unfold readF; rw [h]; rfl
/-- What brackets do to a text that is read. -/
theorem round_read {s : ByteArray} {e : E} {ws : List W} (h : readF s = (e, true)) (hc : cutRes s = (ws, true)) (hl : ws.length ≤ 590) (hs : s.size + 4 ≤ 3000) :
    readF (⟨#[40]⟩ ++ s ++ ⟨#[41]⟩) = (e, true) ∧ readF (⟨#[40, 40]⟩ ++ s ++ ⟨#[41, 41]⟩) = (e, true) ∧ (readF (⟨#[40]⟩ ++ s)).2 = false ∧ (readF (s ++ ⟨#[41]⟩)).2 = false := by
  obtain ⟨hv, ws', hc', hr, _⟩ := readF_yes h
  rw [hc] at hc'
  injection hc' with hw _
  subst hw
  obtain ⟨hL, _, _⟩ := cutRes_list hc
  have d1 : (⟨#[40]⟩ ++ s ++ ⟨#[41]⟩ : ByteArray).data.toList = 40 :: (s.data.toList ++ [41]) := by simp
  have d2 : (⟨#[40, 40]⟩ ++ s ++ ⟨#[41, 41]⟩ : ByteArray).data.toList = 40 :: (40 :: (s.data.toList ++ [41]) ++ [41]) := by simp
  have d3 : (⟨#[40]⟩ ++ s : ByteArray).data.toList = 40 :: s.data.toList := by simp
  have d4 : (s ++ ⟨#[41]⟩ : ByteArray).data.toList = s.data.toList ++ [41] := by simp
  have z1 : (⟨#[40]⟩ ++ s ++ ⟨#[41]⟩ : ByteArray).size ≤ 3000 := by rw [ByteArray.size_append, ByteArray.size_append]; show 1 + s.size + 1 ≤ 3000; omega
  have z2 : (⟨#[40, 40]⟩ ++ s ++ ⟨#[41, 41]⟩ : ByteArray).size ≤ 3000 := by rw [ByteArray.size_append, ByteArray.size_append]; show 2 + s.size + 2 ≤ 3000; omega
  have z3 : (⟨#[40]⟩ ++ s : ByteArray).size ≤ 3000 := by rw [ByteArray.size_append]; show 1 + s.size ≤ 3000; omega
  have z4 : (s ++ ⟨#[41]⟩ : ByteArray).size ≤ 3000 := by rw [ByteArray.size_append]; show s.size + 1 ≤ 3000; omega
  have c1 := cutL_lp _ (cutL_rp _ hL)
  have c2 := cutL_lp _ (cutL_rp _ c1)
  have c3 := cutL_lp _ hL
  have c4 := cutL_rp _ hL
  have r1 := rd_bracket (t := []) hr (by simp; omega) TB.nil
  have hr2 : rdL nmB 6100 1 ((3, lpS) :: (ws ++ [(3, rpS)])) = some (e, []) := r1
  have r2 := rd_bracket (t := []) hr2 (by simp; omega) TB.nil
  refine ⟨?_, ?_, ?_, ?_⟩
  · rw [readF_ok' (cutRes_of (by rw [d1]; exact c1) z1 (by simp; omega))]
    unfold readW
    rw [hr2]
    dsimp only
    rw [if_pos hv]
  · rw [readF_ok' (cutRes_of (by rw [d2]; exact c2) z2 (by simp; omega))]
    unfold readW
    rw [show rdL nmB 6100 1 ((3, lpS) :: (((3, lpS) :: (ws ++ [(3, rpS)])) ++ [(3, rpS)])) = some (e, []) from r2]
    dsimp only
    rw [if_pos hv]
  · rw [readF_ok' (cutRes_of (by rw [d3]; exact c3) z3 (by simp; omega))]
    cases hq : readW ((3, lpS) :: ws) with
    | mk x b =>
      cases b
      · rfl
      · exact (rd_open hr (readW_yes hq).1).elim
  · rw [readF_ok' (cutRes_of (by rw [d4]; exact c4) z4 (by simp; omega))]
    unfold readW
    rw [rd_behind hr (by omega)]
end Go.Proofs.YtkhcfhhejmkikaaGreatDoor

namespace Go.Proofs.YtkhcfhhejmkikaaGreatDoor
open Go.RowKit

/-- At most so many words. -/
def Cn (l : List UInt8) (n : Nat) : Prop := ∀ ws, cutL l = some ws → ws.length ≤ n
/-- A sign or a blank. -/
def Edge (b : UInt8) : Prop := cls b.toNat = 3 ∨ cls b.toNat = 4
theorem totalW_len : ∀ ws : List (Int × ByteArray), ws.length ≤ totalW ws
  | [] => Nat.zero_le _
  | x :: ws => by rw [totalW_cons, List.length_cons]; have := totalW_len ws; omega
theorem cn_bytes (l : List UInt8) : Cn l (2 * l.length) := fun ws h => by
  have h1 := cutL_total l.length l ws (Nat.le_refl _) h
  have h2 := totalW_len ws
  omega
theorem Cn.mono {l : List UInt8} {n m : Nat} (h : Cn l n) (hm : n ≤ m) : Cn l m := fun ws hw => Nat.le_trans (h ws hw) hm
theorem cutL_edge {a : List UInt8} {b : UInt8} {c : List UInt8} (hb : Edge b) : cutL (a ++ b :: c) = both (cutL a) (cutL (b :: c)) := by
  rcases hb with h | h
  · exact cutL_sign a.length a (Nat.le_refl _) b c h
  · rw [cutL_two a.length a (Nat.le_refl _) b c h, cutL_blank h]
theorem both_len {x y : Option (List (Int × ByteArray))} {ws : List (Int × ByteArray)} (h : both x y = some ws) : ∃ a b, x = some a ∧ y = some b ∧ ws.length = a.length + b.length := by
  cases x with
  | none => cases y <;> cases h
  | some a =>
    cases y with
    | none => cases h
    | some b =>
      have h' : some (a ++ b) = some ws := h
      injection h' with h'
      subst h'
      exact ⟨a, b, rfl, rfl, List.length_append⟩
theorem Cn.behind {l : List UInt8} {n : Nat} (h : Cn l n) {b : UInt8} (c : List UInt8) (hb : Edge b) : Cn (l ++ b :: c) (n + 2 * (c.length + 1)) := by
  intro ws hw
  rw [cutL_edge hb] at hw
  obtain ⟨x, y, h1, h2, h3⟩ := both_len hw
  have hx := h x h1
  have hy := cn_bytes (b :: c) y h2
  rw [List.length_cons] at hy
  omega
theorem cutL_byte {b : UInt8} (h : cls b.toNat = 3) (l : List UInt8) : cutL (b :: l) = (cutL l).map ((3, ⟨#[b]⟩) :: ·) := cutL_front (z := 3) (t := ⟨#[b]⟩) (r := l) (valid_byte h) (fun b _ _ => goCls_sign b)
theorem Cn.ahead {l : List UInt8} {n : Nat} (h : Cn l n) (p : List UInt8) {b : UInt8} (hb : Edge b) : Cn (p ++ b :: l) (2 * p.length + 1 + n) := by
  intro ws hw
  rw [cutL_edge hb] at hw
  obtain ⟨x, y, h1, h2, h3⟩ := both_len hw
  have hx := cn_bytes p x h1
  have hy : y.length ≤ n + 1 := by
    rcases hb with hb | hb
    · rw [cutL_byte hb] at h2
      cases hl : cutL l with
      | none => rw [hl] at h2; cases h2
      | some wl =>
        rw [hl] at h2
        have h2' : some ((3, ⟨#[b]⟩) :: wl) = some y := h2
        injection h2' with h2'
        subst h2'
        have := h wl hl
        rw [List.length_cons]; omega
    · rw [cutL_blank hb] at h2
      have := h y h2
      omega
  omega
def AllL (b : UInt8) (l : List UInt8) : Prop := ∀ x ∈ l, x = b
theorem Cn.behinds {l : List UInt8} {n : Nat} (h : Cn l n) {b : UInt8} (hb : Edge b) {t : List UInt8} (ht : AllL b t) : Cn (l ++ t) (n + 2 * t.length) := by
  cases t with
  | nil => rw [List.append_nil]; exact h.mono (by omega)
  | cons x r =>
    have := ht x (by simp)
    subst this
    rw [List.length_cons]
    exact h.behind r hb
theorem Cn.aheads {l : List UInt8} {n : Nat} (h : Cn l n) {b : UInt8} (hb : Edge b) {t : List UInt8} (ht : AllL b t) : Cn (t ++ l) (2 * t.length + n) := by
  rcases List.eq_nil_or_concat t with rfl | ⟨p, x, rfl⟩
  · rw [List.nil_append]; exact h.mono (by omega)
  · have := ht x (by simp)
    subst this
    have h1 := h.ahead p hb
    rw [show p.concat x ++ l = p ++ x :: l by simp]
    exact h1.mono (by simp; omega)
theorem cn_text {d : Nat} {e : E} (h : formE d e = true) (k : Nat) : Cn (tx (wE e k)).data.toList (6 * sizeE e) := by
  intro ws hw
  have hv := wE_valid d e h k
  have hb := wE_bd d e h k
  have hj := cutL_join hv (wE e k).length (Nat.le_refl _)
  rw [List.take_length] at hj
  have he : (tx (wE e k)).data.toList = joinB (wE e k) := by show (joinB (wE e k)).toArray.toList = _; simp
  rw [he, hj] at hw
  injection hw with hw
  subst hw
  omega
/-- What is drawn for ReadExpr has few words, or is none. -/
def Few (s : ByteArray) : Prop := Cn s.data.toList 590 ∨ ∃ r, s.data.toList = 59 :: r
theorem few_read {s : ByteArray} {e : E} {ws : List W} (hf : Few s) (h : readF s = (e, true)) (hc : cutRes s = (ws, true)) : ws.length ≤ 590 := by
  obtain ⟨hL, _, _⟩ := cutRes_list hc
  rcases hf with hf | ⟨r, hr⟩
  · exact hf ws hL
  · exfalso
    rw [hr, cutL_byte (by decide)] at hL
    cases hl : cutL r with
    | none => rw [hl] at hL; cases hL
    | some wl =>
      rw [hl] at hL
      have hL' : some ((3, ⟨#[59]⟩) :: wl) = some ws := hL
      injection hL' with hL'
      subst hL'
      rw [readF_ok' hc] at h
      obtain ⟨n, p, hT⟩ := rdL_tight _ _ _ _ _ (readW_yes h).1
      have ha : aheadAt ((3, ⟨#[59]⟩) :: wl) = none := aheadAt_none (fun op hop => isT_no (by rcases hop with rfl | rfl <;> decide))
      cases n with
      | zero => cases hT
      | succ n =>
        rw [rdT_ahead ha] at hT
        cases n with
        | zero => cases hT
        | succ n =>
          rw [rdW_eq, if_neg (by decide), if_neg (by decide), if_neg (by decide)] at hT
          cases hT
end Go.Proofs.YtkhcfhhejmkikaaGreatDoor
