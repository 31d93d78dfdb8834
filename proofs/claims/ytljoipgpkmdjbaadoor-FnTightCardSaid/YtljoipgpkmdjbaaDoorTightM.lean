/-
  Plain mathematics: words one behind the other, with a blank only between two that are no signs, are cut into the same words.
-/
import Derived.Test.YtljoipgpkmdjbaaDoorCutL2
namespace Go.Proofs.YtljoipgpkmdjbaaDoor
open Go.RowKit

/-- The class of the bytes of a valid word. -/
def clsW (z : Int) : Int := if z = 4 then 1 else z
open Classical in
theorem valid_parts {z : Int} {t : ByteArray} (h : validB z t = true) :
    ∃ b r, t.data.toList = b :: r ∧ clsW z ≠ 4 ∧ clsW z ≠ 0 ∧ cls b.toNat = clsW z ∧ (r = [] ∨ (clsW z < 3 ∧ ∀ x ∈ r, cls x.toNat = clsW z)) ∧ wordKind t (clsW z) = z := by
  have hv := h
  have nokey : ∀ {b : UInt8} {r : List UInt8}, t.data.toList = b :: r → cls b.toNat ≠ 1 → isKeyB t = false := by
    intro b r ht hb
    rw [Bool.eq_false_iff]
    intro hk
    obtain ⟨h0, hc⟩ := key_letter hk
    obtain ⟨b', r', ht', hg⟩ := nonempty_cons h0
    rw [ht] at ht'
    injection ht' with e1 e2
    rw [hg h0, ← e1] at hc
    exact hb hc
  unfold validB at h
  split at h
  · subst_vars
    unfold nameB at h
    simp only [Bool.and_eq_true, decide_eq_true_eq, Bool.not_eq_true'] at h
    obtain ⟨⟨ha, _⟩, hk⟩ := h
    unfold allB at ha
    replace ha := of_decide_eq_true ha
    obtain ⟨b, r, ht, hg⟩ := nonempty_cons ha.1
    have hall : ∀ x ∈ t.data.toList, cls x.toNat = 1 := by
      intro x hx
      obtain ⟨j, hj, rfl⟩ := mem_iff_get.1 hx
      exact ha.2 j hj hj
    rw [ht] at hall
    exact ⟨b, r, ht, by decide, by decide, hall b (List.mem_cons_self ..), .inr ⟨by decide, fun x hx => hall x (List.mem_cons_of_mem _ hx)⟩, by unfold wordKind; rw [hk]; rfl⟩
  · split at h
    · subst_vars
      rw [decide_eq_true_eq] at h
      unfold numB at h
      split at h
      · rename_i hc
        have hcan := hc.1
        unfold canon at hcan
        simp only [Bool.and_eq_true] at hcan
        have hall : ∀ x ∈ t.data.toList, cls x.toNat = 2 := fun x hx => isDig_cls (List.all_eq_true.1 hcan.1.2 x hx)
        have h0 : 0 < t.size := by
          rw [← len_list]
          cases hd : t.data.toList with
          | nil => rw [hd] at hcan; simp at hcan
          | cons _ _ => simp
        obtain ⟨b, r, ht, hg⟩ := nonempty_cons h0
        rw [ht] at hall
        have hb := hall b (List.mem_cons_self ..)
        exact ⟨b, r, ht, by decide, by decide, hb, .inr ⟨by decide, fun x hx => hall x (List.mem_cons_of_mem _ hx)⟩, by unfold wordKind; rw [nokey ht (by omega)]; rfl⟩
      · omega
    · split at h
      · subst_vars
        unfold signB at h
        split at h
        · rename_i h1
          rw [beq_iff_eq] at h
          obtain ⟨b, r, ht, hg⟩ := nonempty_cons (t := t) (by omega)
          rw [hg] at h
          have hr : r = [] := by
            have := len_list t
            rw [ht, List.length_cons] at this
            exact List.eq_nil_of_length_eq_zero (by omega)
          exact ⟨b, r, ht, by decide, by decide, h, .inl hr, by unfold wordKind; rw [nokey ht (by omega)]; rfl⟩
        · cases h
      · split at h
        · subst_vars
          obtain ⟨h0, _⟩ := key_letter h
          obtain ⟨b, r, ht, hg⟩ := nonempty_cons h0
          have hall : ∀ x ∈ t.data.toList, cls x.toNat = 1 := by
            obtain ⟨k, hk, rfl⟩ := (isKeyB_iff t).1 h
            exact key_letters k hk
          rw [ht] at hall
          exact ⟨b, r, ht, by decide, by decide, hall b (List.mem_cons_self ..), .inr ⟨by decide, fun x hx => hall x (List.mem_cons_of_mem _ hx)⟩, by unfold wordKind; rw [h]; rfl⟩
        · cases h
theorem takeWhile_front (p : UInt8 → Bool) (r : List UInt8) (hr : ∀ b r', r = b :: r' → p b = false) : ∀ l : List UInt8, (∀ x ∈ l, p x = true) → (l ++ r).takeWhile p = l ∧ (l ++ r).dropWhile p = r
  | [], _ => by
    rw [List.nil_append]
    cases r with
    | nil => exact ⟨rfl, rfl⟩
    | cons b r' => rw [List.takeWhile_cons, List.dropWhile_cons, hr b r' rfl]; exact ⟨rfl, rfl⟩
  | a :: l, h => by
    have ih := takeWhile_front p r hr l (fun x hx => h x (List.mem_cons_of_mem _ hx))
    have ha := h a (List.mem_cons_self ..)
    rw [List.cons_append, List.takeWhile_cons, List.dropWhile_cons, if_pos ha, if_pos ha, ih.1, ih.2]
    exact ⟨rfl, rfl⟩
theorem cutL_front {z : Int} {t : ByteArray} {r : List UInt8} (hv : validB z t = true) (hr : ∀ b r', r = b :: r' → goCls (clsW z) b = false) :
    cutL (t.data.toList ++ r) = (cutL r).map ((z, t) :: ·) := by
  obtain ⟨b, r0, ht, h4, h0, hb, hr0, hk⟩ := valid_parts hv
  have hp : ∀ x ∈ r0, goCls (clsW z) x = true := by
    intro x hx
    rcases hr0 with rfl | ⟨h3, hr0⟩
    · cases hx
    · unfold goCls
      rw [hr0 x hx, decide_eq_true h3]
      simp
  have hw := takeWhile_front (goCls (clsW z)) r hr r0 hp
  have ht' : (⟨(b :: r0).toArray⟩ : ByteArray) = t := by rw [← ht]
  rw [ht, List.cons_append, cutL_cons, hb, hw.1, hw.2, ht', hk, if_neg h4, if_pos ⟨h0, hv⟩]
theorem goCls_sign (b : UInt8) : goCls 3 b = false := by unfold goCls; simp
def kindAt (ws : List (Int × ByteArray)) (k : Nat) : Int := (ws.getD k (0, ByteArray.empty)).1
def textAt (ws : List (Int × ByteArray)) (k : Nat) : ByteArray := (ws.getD k (0, ByteArray.empty)).2
theorem kindAt_eq {ws : List (Int × ByteArray)} {k : Nat} (h : k < ws.length) : kindAt ws k = ws[k].1 := by
  unfold kindAt; rw [List.getD_eq_getElem?_getD, List.getElem?_eq_getElem h, Option.getD_some]
theorem textAt_eq {ws : List (Int × ByteArray)} {k : Nat} (h : k < ws.length) : textAt ws k = ws[k].2 := by
  unfold textAt; rw [List.getD_eq_getElem?_getD, List.getElem?_eq_getElem h, Option.getD_some]
/-- The first k words, with a blank only between two that are no signs. -/
def tB (ws : List (Int × ByteArray)) : Nat → ByteArray
  | 0 => ⟨#[]⟩
  | k + 1 => if 0 < k ∧ kindAt ws k ≠ 3 ∧ kindAt ws (k - 1) ≠ 3 then tB ws k ++ ⟨#[32]⟩ ++ textAt ws k else tB ws k ++ textAt ws k
theorem both_snoc (x : Int × ByteArray) (a : List (Int × ByteArray)) (b : Option (List (Int × ByteArray))) : both (some a) (b.map (x :: ·)) = both (some (a ++ [x])) b := by
  cases b with
  | none => rfl
  | some y => show some (a ++ x :: y) = some (a ++ [x] ++ y); rw [List.append_assoc]; rfl
theorem cut_tight {ws : List (Int × ByteArray)} (hv : ∀ x ∈ ws, validB x.1 x.2 = true) : ∀ (k : Nat) (rest : List UInt8), k ≤ ws.length →
    (0 < k → ∀ b r', rest = b :: r' → goCls (clsW (kindAt ws (k - 1))) b = false) → cutL ((tB ws k).data.toList ++ rest) = both (some (ws.take k)) (cutL rest)
  | 0, rest, _, _ => by
    show cutL ([] ++ rest) = _
    rw [List.nil_append, List.take_zero, both_nil]
  | k + 1, rest, hk, hr => by
    have hk' : k < ws.length := hk
    have hvk := hv _ (List.getElem_mem hk')
    have hlast : ∀ b r', rest = b :: r' → goCls (clsW ws[k].1) b = false := by
      have h := hr (Nat.succ_pos k)
      rw [Nat.add_sub_cancel, kindAt_eq hk'] at h
      exact h
    have hf := cutL_front hvk hlast
    by_cases hs : 0 < k ∧ kindAt ws k ≠ 3 ∧ kindAt ws (k - 1) ≠ 3
    · have e : tB ws (k + 1) = tB ws k ++ ⟨#[32]⟩ ++ textAt ws k := by show (if _ then _ else _) = _; rw [if_pos hs]
      have e2 : (tB ws (k + 1)).data.toList ++ rest = (tB ws k).data.toList ++ (32 :: (ws[k].2.data.toList ++ rest)) := by
        rw [e, textAt_eq hk', ByteArray.data_append, ByteArray.data_append, Array.toList_append, Array.toList_append]
        show (tB ws k).data.toList ++ [32] ++ _ ++ rest = _
        simp
      have hc : ∀ c : Int, c ≠ 4 → goCls c 32 = false := fun c hc => goCls_no (by intro e; exact hc (e ▸ (by decide)))
      have hne : clsW (kindAt ws (k - 1)) ≠ 4 := by
        rw [kindAt_eq (by omega)]
        obtain ⟨_, _, _, h4, _⟩ := valid_parts (hv _ (List.getElem_mem (show k - 1 < ws.length by omega)))
        exact h4
      rw [e2, cut_tight hv k _ (by omega) (fun _ b r' hb => by injection hb with h1 h2; rw [← h1]; exact hc _ hne), cutL_blank (by decide), hf, both_snoc, List.take_succ_eq_append_getElem hk']
    · have e : tB ws (k + 1) = tB ws k ++ textAt ws k := by show (if _ then _ else _) = _; rw [if_neg hs]
      have e2 : (tB ws (k + 1)).data.toList ++ rest = (tB ws k).data.toList ++ (ws[k].2.data.toList ++ rest) := by
        rw [e, textAt_eq hk', ByteArray.data_append, Array.toList_append, List.append_assoc]
      rw [e2, cut_tight hv k _ (by omega) (fun h0 b r' hb => ?_), hf, both_snoc, List.take_succ_eq_append_getElem hk']
      obtain ⟨b0, r0, ht, _, _, hc0, _⟩ := valid_parts hvk
      rw [ht, List.cons_append] at hb
      injection hb with h1 h2
      rw [← h1]
      by_cases h3 : clsW (kindAt ws (k - 1)) = 3
      · rw [h3]; exact goCls_sign _
      · apply goCls_no
        rw [hc0]
        intro e3
        by_cases hk3 : kindAt ws k = 3
        · rw [kindAt_eq hk'] at hk3
          rw [hk3] at e3
          exact h3 (e3 ▸ rfl)
        · have : kindAt ws (k - 1) = 3 := by
            by_cases hx : kindAt ws (k - 1) = 3
            · exact hx
            · exact absurd ⟨h0, hk3, hx⟩ hs
          rw [this] at h3
          exact h3 rfl
theorem tB_size {ws : List (Int × ByteArray)} (hv : ∀ x ∈ ws, validB x.1 x.2 = true) : ∀ k, k ≤ ws.length → (tB ws k).size ≤ 5 * k
  | 0, _ => Nat.le_refl _
  | k + 1, hk => by
    have ih := tB_size hv k (by omega)
    have h4 := validB_size (hv _ (List.getElem_mem (show k < ws.length from hk)))
    have e1 : (⟨#[32]⟩ : ByteArray).size = 1 := rfl
    show (if _ then _ else _ : ByteArray).size ≤ _
    rw [textAt_eq (show k < ws.length from hk)]
    split
    · rw [ByteArray.size_append, ByteArray.size_append]; omega
    · rw [ByteArray.size_append]; omega
theorem cutRes_tight {ws : List (Int × ByteArray)} (hv : ∀ x ∈ ws, validB x.1 x.2 = true) (hl : ws.length ≤ 20) : cutRes (tB ws ws.length) = (ws, true) := by
  have hs := tB_size hv ws.length (Nat.le_refl _)
  have h := cut_tight hv ws.length [] (Nat.le_refl _) (fun _ b r' hb => by cases hb)
  rw [List.append_nil, cutL_nil, List.take_of_length_le (Nat.le_refl _)] at h
  refine cutRes_yes (by omega) ?_ (by omega)
  rw [cut_list, h]
  show some (ws ++ []) = _
  rw [List.append_nil]
theorem plain_tight {ws : List (Int × ByteArray)} (hv : ∀ x ∈ ws, validB x.1 x.2 = true) (hl : ws.length ≤ 20) : plainF (tB ws ws.length) = joinF ws := by
  unfold plainF
  rw [cutRes_tight hv hl]
  rfl
theorem tB_sep {ws : List (Int × ByteArray)} {k : Nat} (hk : k < ws.length) (h0 : 0 < k) (h1 : ws[k].1 ≠ 3) (h2 : (ws[k - 1]'(by omega)).1 ≠ 3) : tB ws (k + 1) = tB ws k ++ ⟨#[32]⟩ ++ ws[k].2 := by
  show (if _ then _ else _) = _
  rw [if_pos ⟨h0, by rw [kindAt_eq hk]; exact h1, by rw [kindAt_eq (by omega)]; exact h2⟩, textAt_eq hk]
theorem tB_nosep {ws : List (Int × ByteArray)} {k : Nat} (hk : k < ws.length) (h : k = 0 ∨ ws[k].1 = 3 ∨ ∃ h : k - 1 < ws.length, ws[k - 1].1 = 3) : tB ws (k + 1) = tB ws k ++ ws[k].2 := by
  show (if _ then _ else _) = _
  rw [if_neg, textAt_eq hk]
  rintro ⟨h0, h1, h2⟩
  rw [kindAt_eq hk] at h1
  rcases h with h | h | ⟨hh, h⟩
  · omega
  · exact h1 h
  · rw [kindAt_eq hh] at h2; exact h2 h
end Go.Proofs.YtljoipgpkmdjbaaDoor
