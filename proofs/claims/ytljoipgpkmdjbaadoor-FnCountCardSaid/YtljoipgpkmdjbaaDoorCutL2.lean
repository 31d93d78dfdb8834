/-
  Plain mathematics of chapter 1's laws: a joined text is cut into the same words; two texts with a blank between; blanks around and line feeds.
-/
import Derived.Test.YtljoipgpkmdjbaaDoorCutL
import Derived.Test.YtljoipgpkmdjbaaDoorPlain
namespace Go.Proofs.YtljoipgpkmdjbaaDoor
open Go.RowKit

theorem cutRes_inv {s : ByteArray} {ws : List (Int × ByteArray)} (h : cutRes s = (ws, true)) : s.size ≤ 3000 ∧ cutF s 0 = some ws ∧ ws.length ≤ 600 := by
  unfold cutRes at h
  split at h
  · simp at h
  · split at h
    · rename_i ws' hc
      split at h
      · rename_i hl
        injection h with h1 h2
        subst h1
        exact ⟨by omega, hc, hl⟩
      · simp at h
    · simp at h
theorem cutRes_off {s : ByteArray} {ws : List (Int × ByteArray)} (h : cutRes s = (ws, false)) : ws = [] ∧ (s.size ≤ 3000 → ∀ us, cutF s 0 = some us → 600 < us.length) := by
  unfold cutRes at h
  split at h
  · injection h with h1 h2
    exact ⟨h1.symm, fun h' => by omega⟩
  · split at h
    · rename_i ws' hc
      split at h
      · simp at h
      · rename_i hl
        injection h with h1 h2
        exact ⟨h1.symm, fun _ us hu => by rw [hc] at hu; injection hu with hu; subst hu; omega⟩
    · rename_i hc
      injection h with h1 h2
      exact ⟨h1.symm, fun _ us hu => by rw [hc] at hu; cases hu⟩

theorem takeWhile_all (p : UInt8 → Bool) : ∀ l : List UInt8, (∀ x ∈ l, p x = true) → l.takeWhile p = l ∧ l.dropWhile p = []
  | [], _ => ⟨rfl, rfl⟩
  | a :: r, h => by
    have ih := takeWhile_all p r (fun x hx => h x (List.mem_cons_of_mem _ hx))
    have ha := h a (List.mem_cons_self ..)
    rw [List.takeWhile_cons, List.dropWhile_cons, if_pos ha, if_pos ha, ih.1, ih.2]
    exact ⟨rfl, rfl⟩
theorem cutL_run {t : ByteArray} {b : UInt8} {r : List UInt8} {c z : Int} (ht : t.data.toList = b :: r) (hc : c ≠ 4 ∧ c ≠ 0) (h0 : cls b.toNat = c) (hr : r = [] ∨ (c < 3 ∧ ∀ x ∈ r, cls x.toNat = c))
    (hz : wordKind t c = z) (hv : validB z t = true) : cutL t.data.toList = some [(z, t)] := by
  have hp : ∀ x ∈ r, goCls c x = true := by
    intro x hx
    rcases hr with rfl | ⟨h3, hr⟩
    · cases hx
    · unfold goCls
      rw [hr x hx, decide_eq_true h3]
      simp
  have hw := takeWhile_all (goCls c) r hp
  have ht' : (⟨(b :: r).toArray⟩ : ByteArray) = t := by rw [← ht]
  rw [ht, cutL_cons, h0, hw.1, hw.2, ht', hz, if_neg hc.1, if_pos ⟨hc.2, hv⟩, cutL_nil]
  rfl
theorem nonempty_cons {t : ByteArray} (h : 0 < t.size) : ∃ b r, t.data.toList = b :: r ∧ ∀ (h0 : 0 < t.size), t[0] = b := by
  have hl := len_list t
  cases hd : t.data.toList with
  | nil => rw [hd, List.length_nil] at hl; omega
  | cons b r =>
    refine ⟨b, r, rfl, fun h0 => ?_⟩
    have e : t[0] = t.data.toList[0]'(by rw [hl]; exact h0) := rfl
    rw [e]
    simp [hd]
theorem key_letters : ∀ k, k < 9 → ∀ x ∈ (keyB k).data.toList, cls x.toNat = 1 := by decide +kernel
theorem isDig_cls {x : UInt8} (h : isDig x = true) : cls x.toNat = 2 := by
  unfold isDig at h
  simp only [decide_eq_true_eq] at h
  have h1 : 48 ≤ x.toNat := by simpa using h.1
  have h2 : x.toNat ≤ 57 := by simpa using h.2
  exact cls_digit h1 h2
open Classical in
theorem cutL_one {z : Int} {t : ByteArray} (h : validB z t = true) : cutL t.data.toList = some [(z, t)] := by
  have hv := h
  have nokey : ∀ {b : UInt8} {r : List UInt8}, t.data.toList = b :: r → cls b.toNat ≠ 1 → isKeyB t = false := by
    intro b r ht hb
    rw [Bool.eq_false_iff]
    intro hk
    obtain ⟨h0, hc⟩ := key_letter hk
    obtain ⟨b', r', ht', hg⟩ := nonempty_cons h0
    rw [ht] at ht'
    injection ht' with e1 e2
    rw [hg h0, ← e1] at hc
    exact hb hc
  unfold validB at h
  split at h
  · subst_vars
    unfold nameB at h
    simp only [Bool.and_eq_true, decide_eq_true_eq, Bool.not_eq_true'] at h
    obtain ⟨⟨ha, _⟩, hk⟩ := h
    unfold allB at ha
    replace ha := of_decide_eq_true ha
    obtain ⟨b, r, ht, hg⟩ := nonempty_cons ha.1
    have hall : ∀ x ∈ t.data.toList, cls x.toNat = 1 := by
      intro x hx
      obtain ⟨j, hj, rfl⟩ := mem_iff_get.1 hx
      exact ha.2 j hj hj
    rw [ht] at hall
    exact cutL_run ht ⟨by decide, by decide⟩ (hall b (List.mem_cons_self ..)) (.inr ⟨by decide, fun x hx => hall x (List.mem_cons_of_mem _ hx)⟩) (by unfold wordKind; rw [hk]; rfl) hv
  · split at h
    · subst_vars
      rw [decide_eq_true_eq] at h
      unfold numB at h
      split at h
      · rename_i hc
        have hcan := hc.1
        unfold canon at hcan
        simp only [Bool.and_eq_true] at hcan
        have hall : ∀ x ∈ t.data.toList, cls x.toNat = 2 := fun x hx => isDig_cls (List.all_eq_true.1 hcan.1.2 x hx)
        have h0 : 0 < t.size := by
          rw [← len_list]
          cases hd : t.data.toList with
          | nil => rw [hd] at hcan; simp at hcan
          | cons _ _ => simp
        obtain ⟨b, r, ht, hg⟩ := nonempty_cons h0
        rw [ht] at hall
        have hb := hall b (List.mem_cons_self ..)
        exact cutL_run ht ⟨by decide, by decide⟩ hb (.inr ⟨by decide, fun x hx => hall x (List.mem_cons_of_mem _ hx)⟩) (by unfold wordKind; rw [nokey ht (by omega)]; rfl) hv
      · omega
    · split at h
      · subst_vars
        unfold signB at h
        split at h
        · rename_i h1
          rw [beq_iff_eq] at h
          obtain ⟨b, r, ht, hg⟩ := nonempty_cons (t := t) (by omega)
          rw [hg] at h
          have hr : r = [] := by
            have := len_list t
            rw [ht, List.length_cons] at this
            exact List.eq_nil_of_length_eq_zero (by omega)
          exact cutL_run ht ⟨by decide, by decide⟩ h (.inl hr) (by unfold wordKind; rw [nokey ht (by omega)]; rfl) hv
        · cases h
      · split at h
        · subst_vars
          obtain ⟨h0, _⟩ := key_letter h
          obtain ⟨b, r, ht, hg⟩ := nonempty_cons h0
          have hall : ∀ x ∈ t.data.toList, cls x.toNat = 1 := by
            obtain ⟨k, hk, rfl⟩ := (isKeyB_iff t).1 h
            exact key_letters k hk
          rw [ht] at hall
          exact cutL_run ht ⟨by decide, by decide⟩ (hall b (List.mem_cons_self ..)) (.inr ⟨by decide, fun x hx => hall x (List.mem_cons_of_mem _ hx)⟩) (by unfold wordKind; rw [h]; rfl) hv
        · cases h

theorem cutL_join {ws : List (Int × ByteArray)} (hv : ∀ x ∈ ws, validB x.1 x.2 = true) : ∀ k, k ≤ ws.length → cutL (joinB (ws.take k)) = some (ws.take k)
  | 0, _ => by simp [joinB_nil, cutL_nil]
  | k + 1, hk => by
    have h1 := cutL_one (hv _ (List.getElem_mem (show k < ws.length by omega)))
    by_cases h0 : k = 0
    · subst h0
      rw [joinB_first (by omega), h1, List.take_succ_eq_append_getElem (by omega)]
      simp
    · rw [joinB_next (by omega) (by omega), cutL_two _ _ (Nat.le_refl _) 32 _ (by decide), cutL_join hv k (by omega), h1, List.take_succ_eq_append_getElem (by omega)]
      rfl
/-- How long words are with a blank behind each. -/
def totalW (ws : List (Int × ByteArray)) : Nat := (ws.map (fun x => x.2.size + 1)).sum
theorem totalW_cons (x : Int × ByteArray) (ws : List (Int × ByteArray)) : totalW (x :: ws) = x.2.size + 1 + totalW ws := by simp [totalW]
theorem totalW_snoc (x : Int × ByteArray) (ws : List (Int × ByteArray)) : totalW (ws ++ [x]) = totalW ws + (x.2.size + 1) := by simp [totalW]
theorem cutL_total : ∀ (n : Nat) (l : List UInt8) (ws : List (Int × ByteArray)), l.length ≤ n → cutL l = some ws → totalW ws ≤ 2 * l.length := by
  intro n
  induction n with
  | zero =>
    intro l ws hl h
    have : l = [] := List.eq_nil_of_length_eq_zero (by omega)
    subst this
    rw [cutL_nil] at h
    injection h with h
    subst h
    simp [totalW]
  | succ n ih =>
    intro l ws hl h
    cases l with
    | nil =>
      rw [cutL_nil] at h
      injection h with h
      subst h
      simp [totalW]
    | cons b r =>
      rw [List.length_cons] at hl ⊢
      rw [cutL_cons] at h
      split at h
      · have := ih r ws (by omega) h
        omega
      · split at h
        · have hd := dropWhile_le (goCls (cls b.toNat)) r
          have hs : (r.takeWhile (goCls (cls b.toNat))).length + (r.dropWhile (goCls (cls b.toNat))).length = r.length := by
            rw [← List.length_append, List.takeWhile_append_dropWhile]
          rw [Option.map_eq_some_iff] at h
          obtain ⟨us, hu, rfl⟩ := h
          have := ih _ us (by omega) hu
          rw [totalW_cons]
          show (b :: r.takeWhile (goCls (cls b.toNat))).toArray.size + 1 + totalW us ≤ _
          rw [List.size_toArray, List.length_cons]
          omega
        · cases h
theorem joinB_total {ws : List (Int × ByteArray)} : ∀ k, k ≤ ws.length → (joinB (ws.take k)).length ≤ totalW (ws.take k)
  | 0, _ => by simp [joinB_nil]
  | k + 1, hk => by
    have ih := joinB_total k (show k ≤ ws.length by omega)
    have e := len_list (ws[k]'(by omega)).2
    rw [List.take_succ_eq_append_getElem (by omega), totalW_snoc]
    rw [← List.take_succ_eq_append_getElem (by omega)]
    by_cases h0 : k = 0
    · subst h0
      rw [joinB_first (by omega), e]
      omega
    · rw [joinB_next (by omega) (by omega), List.length_append, List.length_cons, e]
      omega
theorem plain_yes {s : ByteArray} {ws : List (Int × ByteArray)} (h : cutRes s = (ws, true)) :
    ∃ x, plainF s = (x, true) ∧ cutRes x = (ws, true) ∧ plainF x = (x, true) ∧ x.size ≤ 2 * s.size ∧ x.size ≤ 3000 := by
  obtain ⟨_, hc, hl⟩ := cutRes_inv h
  have hv : ∀ x ∈ ws, validB x.1 x.2 = true := by have := cutRes_valid s; rw [h] at this; exact this
  have hvt : validTo ws ws.length := fun j hj _ => hv _ (List.getElem_mem hj)
  have hj := joinF_yes hl hvt
  have ht : ws.take ws.length = ws := List.take_of_length_le (Nat.le_refl _)
  have hsz : (⟨(joinB ws).toArray⟩ : ByteArray).size = (joinB ws).length := by show (joinB ws).toArray.size = _; simp
  have h5 := joinB_len ws.length (Nat.le_refl _) hvt
  have hto := joinB_total (ws := ws) ws.length (Nat.le_refl _)
  have hcl := cutL_join hv ws.length (Nat.le_refl _)
  rw [ht] at h5 hto hcl
  have h2 := cutL_total _ _ ws (Nat.le_refl _) (by rw [← cut_list]; exact hc)
  rw [len_list] at h2
  have hcx : cutRes ⟨(joinB ws).toArray⟩ = (ws, true) := cutRes_yes (by rw [hsz]; omega) (by rw [cut_list]; simpa using hcl) hl
  refine ⟨⟨(joinB ws).toArray⟩, ?_, hcx, ?_, by rw [hsz]; omega, by rw [hsz]; omega⟩
  · unfold plainF; rw [h]; exact hj
  · unfold plainF; rw [hcx]; exact hj
theorem plain_no {s : ByteArray} {ws : List (Int × ByteArray)} (h : cutRes s = (ws, false)) : plainF s = (⟨#[]⟩, false) := by
  unfold plainF; rw [h]; rfl
end Go.Proofs.YtljoipgpkmdjbaaDoor
