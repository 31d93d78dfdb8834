/-
  Texts of expressions: the model's text is that of the words.
-/
import Derived.Test.YtkhcfhhejmkikaaGreatDoorMg6
import Derived.Test.YtkhcfhhejmkikaaGreatDoorMg10
import Derived.Test.YtkhcfhhejmkikaaGreatDoorMg14
import Derived.Test.YtkhcfhhejmkikaaGreatDoorMg15
import Derived.Test.YtkhcfhhejmkikaaGreatDoorMg17
import Derived.Laws.BytesArg
import Derived.Laws.IdiomStrings
namespace Go.Proofs.YtkhcfhhejmkikaaGreatDoor
open Go.RowKit

theorem cutRes_inv {s : ByteArray} {ws : List (Int × ByteArray)} (h : cutRes s = (ws, true)) : s.size ≤ 3000 ∧ cutF s 0 = some ws ∧ ws.length ≤ 600 := by
  unfold cutRes at h
  split at h
  · simp at h
  · split at h
    · rename_i ws' hc
      split at h
      · rename_i hl
        injection h with h1 h2
        subst h1
        exact ⟨by omega, hc, hl⟩
      · simp at h
    · simp at h
theorem cutRes_off {s : ByteArray} {ws : List (Int × ByteArray)} (h : cutRes s = (ws, false)) : ws = [] ∧ (s.size ≤ 3000 → ∀ us, cutF s 0 = some us → 600 < us.length) := by
  unfold cutRes at h
  split at h
  · injection h with h1 h2
    exact ⟨h1.symm, fun h' => by omega⟩
  · split at h
    · rename_i ws' hc
      split at h
      · simp at h
      · rename_i hl
        injection h with h1 h2
        exact ⟨h1.symm, fun _ us hu => by rw [hc] at hu; injection hu with hu; subst hu; omega⟩
    · rename_i hc
      injection h with h1 h2
      exact ⟨h1.symm, fun _ us hu => by rw [hc] at hu; cases hu⟩

theorem takeWhile_all (p : UInt8 → Bool) : ∀ l : List UInt8, (∀ x ∈ l, p x = true) → l.takeWhile p = l ∧ l.dropWhile p = []
  | [], _ => ⟨rfl, rfl⟩
  | a :: r, h => by
    have ih := takeWhile_all p r (fun x hx => h x (List.mem_cons_of_mem _ hx))
    have ha := h a (List.mem_cons_self ..)
    rw [List.takeWhile_cons, List.dropWhile_cons, if_pos ha, if_pos ha, ih.1, ih.2]
    exact ⟨rfl, rfl⟩
theorem cutL_run {t : ByteArray} {b : UInt8} {r : List UInt8} {c z : Int} (ht : t.data.toList = b :: r) (hc : c ≠ 4 ∧ c ≠ 0) (h0 : cls b.toNat = c) (hr : r = [] ∨ (c < 3 ∧ ∀ x ∈ r, cls x.toNat = c))
    (hz : wordKind t c = z) (hv : validB z t = true) : cutL t.data.toList = some [(z, t)] := by
  have hp : ∀ x ∈ r, goCls c x = true := by
    intro x hx
    rcases hr with rfl | ⟨h3, hr⟩
    · cases hx
    · unfold goCls
      rw [hr x hx, decide_eq_true h3]
      simp
  have hw := takeWhile_all (goCls c) r hp
  have ht' : (⟨(b :: r).toArray⟩ : ByteArray) = t := by rw [← ht]
  rw [ht, cutL_cons, h0, hw.1, hw.2, ht', hz, if_neg hc.1, if_pos ⟨hc.2, hv⟩, cutL_nil]
  rfl
theorem nonempty_cons {t : ByteArray} (h : 0 < t.size) : ∃ b r, t.data.toList = b :: r ∧ ∀ (h0 : 0 < t.size), t[0] = b := by
  have hl := len_list t
  cases hd : t.data.toList with
  | nil => rw [hd, List.length_nil] at hl; omega
  | cons b r =>
    refine ⟨b, r, rfl, fun h0 => ?_⟩
    have e : t[0] = t.data.toList[0]'(by rw [hl]; exact h0) := rfl
    rw [e]
    simp [hd]
theorem key_letters : ∀ k, k < 9 → ∀ x ∈ (keyB k).data.toList, cls x.toNat = 1 := by decide +kernel
theorem isDig_cls {x : UInt8} (h : isDig x = true) : cls x.toNat = 2 := by
  unfold isDig at h
  simp only [decide_eq_true_eq] at h
  have h1 : 48 ≤ x.toNat := by simpa using h.1
  have h2 : x.toNat ≤ 57 := by simpa using h.2
  exact cls_digit h1 h2
open Classical in
theorem cutL_one {z : Int} {t : ByteArray} (h : validB z t = true) : cutL t.data.toList = some [(z, t)] := by
  have hv := h
  have nokey : ∀ {b : UInt8} {r : List UInt8}, t.data.toList = b :: r → cls b.toNat ≠ 1 → isKeyB t = false := by
    intro b r ht hb
    rw [Bool.eq_false_iff]
    intro hk
    obtain ⟨h0, hc⟩ := key_letter hk
    obtain ⟨b', r', ht', hg⟩ := nonempty_cons h0
    rw [ht] at ht'
    injection ht' with e1 e2
    rw [hg h0, ← e1] at hc
    exact hb hc
  unfold validB at h
  split at h
  · subst_vars
    unfold nameB at h
    simp only [Bool.and_eq_true, decide_eq_true_eq, Bool.not_eq_true'] at h
    obtain ⟨⟨ha, _⟩, hk⟩ := h
    unfold allB at ha
    replace ha := of_decide_eq_true ha
    obtain ⟨b, r, ht, hg⟩ := nonempty_cons ha.1
    have hall : ∀ x ∈ t.data.toList, cls x.toNat = 1 := by
      intro x hx
      obtain ⟨j, hj, rfl⟩ := mem_iff_get.1 hx
      exact ha.2 j hj hj
    rw [ht] at hall
    exact cutL_run ht ⟨by decide, by decide⟩ (hall b (List.mem_cons_self ..)) (.inr ⟨by decide, fun x hx => hall x (List.mem_cons_of_mem _ hx)⟩) (by unfold wordKind; rw [hk]; rfl) hv
  · split at h
    · subst_vars
      rw [decide_eq_true_eq] at h
      unfold numB at h
      split at h
      · rename_i hc
        have hcan := hc.1
        unfold canon at hcan
        simp only [Bool.and_eq_true] at hcan
        have hall : ∀ x ∈ t.data.toList, cls x.toNat = 2 := fun x hx => isDig_cls (List.all_eq_true.1 hcan.1.2 x hx)
        have h0 : 0 < t.size := by
          rw [← len_list]
          cases hd : t.data.toList with
          | nil => rw [hd] at hcan; simp at hcan
          | cons _ _ => simp
        obtain ⟨b, r, ht, hg⟩ := nonempty_cons h0
        rw [ht] at hall
        have hb := hall b (List.mem_cons_self ..)
        exact cutL_run ht ⟨by decide, by decide⟩ hb (.inr ⟨by decide, fun x hx => hall x (List.mem_cons_of_mem _ hx)⟩) (by unfold wordKind; rw [nokey ht (by omega)]; rfl) hv
      · omega
    · split at h
      · subst_vars
        unfold signB at h
        split at h
        · rename_i h1
          rw [beq_iff_eq] at h
          obtain ⟨b, r, ht, hg⟩ := nonempty_cons (t := t) (by omega)
          rw [hg] at h
          have hr : r = [] := by
            have := len_list t
            rw [ht, List.length_cons] at this
            exact List.eq_nil_of_length_eq_zero (by omega)
          exact cutL_run ht ⟨by decide, by decide⟩ h (.inl hr) (by unfold wordKind; rw [nokey ht (by omega)]; rfl) hv
        · cases h
      · split at h
        · subst_vars
          obtain ⟨h0, _⟩ := key_letter h
          obtain ⟨b, r, ht, hg⟩ := nonempty_cons h0
          have hall : ∀ x ∈ t.data.toList, cls x.toNat = 1 := by
            obtain ⟨k, hk, rfl⟩ := (isKeyB_iff t).1 h
            exact key_letters k hk
          rw [ht] at hall
          exact cutL_run ht ⟨by decide, by decide⟩ (hall b (List.mem_cons_self ..)) (.inr ⟨by decide, fun x hx => hall x (List.mem_cons_of_mem _ hx)⟩) (by unfold wordKind; rw [h]; rfl) hv
        · cases h

theorem cutL_join {ws : List (Int × ByteArray)} (hv : ∀ x ∈ ws, validB x.1 x.2 = true) : ∀ k, k ≤ ws.length → cutL (joinB (ws.take k)) = some (ws.take k)
  | 0, _ => by simp [joinB_nil, cutL_nil]
  | k + 1, hk => by
    have h1 := cutL_one (hv _ (List.getElem_mem (show k < ws.length by omega)))
    by_cases h0 : k = 0
    · subst h0
      rw [joinB_first (by omega), h1, List.take_succ_eq_append_getElem (by omega)]
      simp
    · rw [joinB_next (by omega) (by omega), cutL_two _ _ (Nat.le_refl _) 32 _ (by decide), cutL_join hv k (by omega), h1, List.take_succ_eq_append_getElem (by omega)]
      rfl
/-- How long words are with a blank behind each. -/
def totalW (ws : List (Int × ByteArray)) : Nat := (ws.map (fun x => x.2.size + 1)).sum
theorem totalW_cons (x : Int × ByteArray) (ws : List (Int × ByteArray)) : totalW (x :: ws) = x.2.size + 1 + totalW ws := by simp [totalW]
theorem totalW_snoc (x : Int × ByteArray) (ws : List (Int × ByteArray)) : totalW (ws ++ [x]) = totalW ws + (x.2.size + 1) := by simp [totalW]
theorem cutL_total : ∀ (n : Nat) (l : List UInt8) (ws : List (Int × ByteArray)), l.length ≤ n → cutL l = some ws → totalW ws ≤ 2 * l.length := by
  intro n
  induction n with
  | zero =>
    intro l ws hl h
    have : l = [] := List.eq_nil_of_length_eq_zero (by omega)
    subst this
    rw [cutL_nil] at h
    injection h with h
    subst h
    simp [totalW]
  | succ n ih =>
    intro l ws hl h
    cases l with
    | nil =>
      rw [cutL_nil] at h
      injection h with h
      subst h
      simp [totalW]
    | cons b r =>
      rw [List.length_cons] at hl ⊢
      rw [cutL_cons] at h
      split at h
      · have := ih r ws (by omega) h
        omega
      · split at h
        · have hd := dropWhile_le (goCls (cls b.toNat)) r
          have hs : (r.takeWhile (goCls (cls b.toNat))).length + (r.dropWhile (goCls (cls b.toNat))).length = r.length := by
            rw [← List.length_append, List.takeWhile_append_dropWhile]
          rw [Option.map_eq_some_iff] at h
          obtain ⟨us, hu, rfl⟩ := h
          have := ih _ us (by omega) hu
          rw [totalW_cons]
          show (b :: r.takeWhile (goCls (cls b.toNat))).toArray.size + 1 + totalW us ≤ _
          rw [List.size_toArray, List.length_cons]
          omega
        · cases h
theorem joinB_total {ws : List (Int × ByteArray)} : ∀ k, k ≤ ws.length → (joinB (ws.take k)).length ≤ totalW (ws.take k)
  | 0, _ => by simp [joinB_nil]
  | k + 1, hk => by
    have ih := joinB_total k (show k ≤ ws.length by omega)
    have e := len_list (ws[k]'(by omega)).2
    rw [List.take_succ_eq_append_getElem (by omega), totalW_snoc]
    rw [← List.take_succ_eq_append_getElem (by omega)]
    by_cases h0 : k = 0
    · subst h0
      rw [joinB_first (by omega), e]
      omega
    · rw [joinB_next (by omega) (by omega), List.length_append, List.length_cons, e]
      omega
theorem plain_yes {s : ByteArray} {ws : List (Int × ByteArray)} (h : cutRes s = (ws, true)) :
    ∃ x, plainF s = (x, true) ∧ cutRes x = (ws, true) ∧ plainF x = (x, true) ∧ x.size ≤ 2 * s.size ∧ x.size ≤ 3000 := by
  obtain ⟨_, hc, hl⟩ := cutRes_inv h
  have hv : ∀ x ∈ ws, validB x.1 x.2 = true := by have := cutRes_valid s; rw [h] at this; exact this
  have hvt : validTo ws ws.length := fun j hj _ => hv _ (List.getElem_mem hj)
  have hj := joinF_yes hl hvt
  have ht : ws.take ws.length = ws := List.take_of_length_le (Nat.le_refl _)
  have hsz : (⟨(joinB ws).toArray⟩ : ByteArray).size = (joinB ws).length := by show (joinB ws).toArray.size = _; simp
  have h5 := joinB_len ws.length (Nat.le_refl _) hvt
  have hto := joinB_total (ws := ws) ws.length (Nat.le_refl _)
  have hcl := cutL_join hv ws.length (Nat.le_refl _)
  rw [ht] at h5 hto hcl
  have h2 := cutL_total _ _ ws (Nat.le_refl _) (by rw [← cut_list]; exact hc)
  rw [len_list] at h2
  have hcx : cutRes ⟨(joinB ws).toArray⟩ = (ws, true) := cutRes_yes (by rw [hsz]; omega) (by rw [cut_list]; simpa using hcl) hl
  refine ⟨⟨(joinB ws).toArray⟩, ?_, hcx, ?_, by rw [hsz]; omega, by rw [hsz]; omega⟩
  · unfold plainF; rw [h]; exact hj
  · unfold plainF; rw [hcx]; exact hj
theorem plain_no {s : ByteArray} {ws : List (Int × ByteArray)} (h : cutRes s = (ws, false)) : plainF s = (⟨#[]⟩, false) := by
  unfold plainF; rw [h]; rfl
end Go.Proofs.YtkhcfhhejmkikaaGreatDoor

namespace Go.Proofs.YtkhcfhhejmkikaaGreatDoor
open Go.RowKit

/-- The number that a word tells. -/
def nmB (s : ByteArray) : Int := numB s.data.toList
theorem nmB_dec (n : Int) (h0 : 0 ≤ n) (h1 : n ≤ 255) : nmB (decS n.toNat) = n := by
  unfold nmB decS numB
  obtain ⟨c, v⟩ := dec_canon_all n.toNat (by omega)
  rw [if_pos ⟨c, by rw [v]; omega⟩, v]
  omega
theorem valid_num (n : Int) (h0 : 0 ≤ n) (h1 : n ≤ 255) : validB 2 (decS n.toNat) = true := by
  have h := nmB_dec n h0 h1
  unfold nmB at h
  unfold validB
  rw [if_neg (by decide), if_pos rfl, h, decide_eq_true h0]
theorem valid_name {s : ByteArray} (h : nameB s = true) : validB 1 s = true := by unfold validB; rw [if_pos rfl, h]
theorem valid_byte {b : UInt8} (h : cls b.toNat = 3) : validB 3 ⟨#[b]⟩ = true := by
  unfold validB
  rw [if_neg (by decide), if_neg (by decide), if_pos rfl]
  unfold signB
  rw [dif_pos (show (⟨#[b]⟩ : ByteArray).size = 1 from rfl)]
  have e : (⟨#[b]⟩ : ByteArray)[0]'(Nat.zero_lt_one) = b := rfl
  rw [beq_iff_eq]
  exact h
theorem valid_sgn {op : Int} (h : 3 ≤ op ∧ op ≤ 12) : validB 3 (sgnS op) = true := valid_byte (sgn_cls h)
theorem valid_lp : validB 3 lpS = true := valid_byte (by decide)
theorem valid_rp : validB 3 rpS = true := valid_byte (by decide)
theorem valid_cm : validB 3 cmS = true := valid_byte (by decide)
/-- All words are valid. -/
def AllV (ws : List W) : Prop := ∀ x ∈ ws, validB x.1 x.2 = true
theorem AllV.cons {x : W} {ws : List W} (h : validB x.1 x.2 = true) (hs : AllV ws) : AllV (x :: ws) := by
  intro y hy
  rcases List.mem_cons.1 hy with rfl | hy
  · exact h
  · exact hs y hy
theorem AllV.app {a b : List W} (ha : AllV a) (hb : AllV b) : AllV (a ++ b) := by
  intro y hy
  rcases List.mem_append.1 hy with hy | hy
  · exact ha y hy
  · exact hb y hy
theorem AllV.nil : AllV [] := fun _ h => by cases h
theorem allV_commas : ∀ {l : List (List W)}, (∀ p ∈ l, AllV p) → AllV (commas l)
  | [], _ => AllV.nil
  | [p], h => h p (by simp)
  | p :: q :: r, h => (h p (by simp)).app (AllV.cons valid_cm (allV_commas (fun x hx => h x (List.mem_cons_of_mem _ hx))))
theorem AllV.need {b : Bool} {l : List W} (h : AllV l) : AllV (needW b l) := by
  unfold needW
  split
  · exact AllV.cons valid_lp (h.app (AllV.cons valid_rp AllV.nil))
  · exact h
theorem wE_valid : ∀ (d : Nat) (e : E), formE d e = true → ∀ l, AllV (wE e l)
  | 0, e, h => by cases h
  | d + 1, e, h => by
    intro l
    rw [wE_eq]
    refine AllV.need ?_
    rcases form_cases h with ⟨n, rfl, h0, h1⟩ | ⟨s, rfl, hs⟩ | ⟨s, ks, rfl, hs, _, hk⟩ | ⟨op, x, rfl, ho, hx⟩ | ⟨op, x, y, rfl, ho, hx, hy⟩
    · exact AllV.cons (valid_num n h0 h1) AllV.nil
    · exact AllV.cons (valid_name hs) AllV.nil
    · show AllV (bodyW 13 0 s (wL 13 0 ks))
      rw [body_call]
      refine AllV.cons (valid_name hs) (AllV.cons valid_lp (AllV.app (allV_commas fun p hp => ?_) (AllV.cons valid_rp AllV.nil)))
      obtain ⟨j, hj, rfl⟩ := List.getElem_of_mem hp
      have hj' : j < ks.length := by rw [wL_length] at hj; exact hj
      rw [wL_get 13 0 ks j hj' hj]
      exact wE_valid d _ (hk _ (List.getElem_mem hj')) _
    · show AllV (bodyW op 0 ⟨#[]⟩ [wE x (needOf op 0)])
      rw [body_un ho]
      exact AllV.cons (valid_sgn (by omega)) (wE_valid d x hx _)
    · show AllV (bodyW op 0 ⟨#[]⟩ [wE x (needOf op 0), wE y (needOf op 1)])
      rw [body_bin ho]
      exact (wE_valid d x hx _).app (AllV.cons (valid_sgn (by omega)) (wE_valid d y hy _))
theorem needW_len (b : Bool) (l : List W) : (needW b l).length ≤ l.length + 2 := needW_length' b l
theorem commas_bd : ∀ (ks : List E) (i : Nat), (∀ k ∈ ks, ∀ l, (wE k l).length + 1 ≤ 6 * sizeE k) → (commas (wL 13 i ks)).length ≤ 6 * sizeL ks
  | [], _, _ => Nat.zero_le _
  | [x], i, h => by
    have := h x (by simp) (needOf 13 i)
    show (wE x (needOf 13 i)).length ≤ 6 * (sizeE x + 0)
    omega
  | x :: y :: ks, i, h => by
    have h1 := h x (by simp) (needOf 13 i)
    have h2 := commas_bd (y :: ks) (i + 1) (fun k hk => h k (by simp at hk ⊢; right; exact hk))
    show (wE x (needOf 13 i) ++ (3, cmS) :: commas (wL 13 (i + 1) (y :: ks))).length ≤ 6 * (sizeE x + sizeL (y :: ks))
    rw [List.length_append, List.length_cons]
    omega
theorem wE_bd : ∀ (d : Nat) (e : E), formE d e = true → ∀ l, (wE e l).length + 1 ≤ 6 * sizeE e
  | 0, e, h => by cases h
  | d + 1, e, h => by
    intro l
    rw [wE_eq]
    have h2 := needW_len (decide (lvl e.op < l)) (bodyW e.op e.n e.name (wL e.op 0 e.kids))
    rcases form_cases h with ⟨n, rfl, h0, h1⟩ | ⟨s, rfl, hs⟩ | ⟨s, ks, rfl, hs, _, hk⟩ | ⟨op, x, rfl, ho, hx⟩ | ⟨op, x, y, rfl, ho, hx, hy⟩
    · have e1 : (bodyW (numE n).op (numE n).n (numE n).name (wL (numE n).op 0 (numE n).kids)).length = 1 := rfl
      have := sizeE_pos (numE n)
      omega
    · have e1 : (bodyW (varE s).op (varE s).n (varE s).name (wL (varE s).op 0 (varE s).kids)).length = 1 := rfl
      have := sizeE_pos (varE s)
      omega
    · have hb := commas_bd ks 0 (fun k hk' l => wE_bd d k (hk k hk') l)
      have e1 : (bodyW (callE s ks).op (callE s ks).n (callE s ks).name (wL (callE s ks).op 0 (callE s ks).kids)).length = (commas (wL 13 0 ks)).length + 3 := by
        show ((1, s) :: (3, lpS) :: (commas (wL 13 0 ks) ++ [(3, rpS)]) : List W).length = _
        simp
      rw [sizeE_call]
      omega
    · have hb := wE_bd d x hx (needOf op 0)
      have e1 : (bodyW (unE op x).op (unE op x).n (unE op x).name (wL (unE op x).op 0 (unE op x).kids)).length = (wE x (needOf op 0)).length + 1 := by
        show (bodyW op 0 ⟨#[]⟩ [wE x (needOf op 0)]).length = _
        rw [body_un ho, List.length_cons]
      rw [sizeE_un]
      omega
    · have hb := wE_bd d x hx (needOf op 0)
      have hb' := wE_bd d y hy (needOf op 1)
      have e1 : (bodyW (binE op x y).op (binE op x y).n (binE op x y).name (wL (binE op x y).op 0 (binE op x y).kids)).length = (wE x (needOf op 0)).length + ((wE y (needOf op 1)).length + 1) := by
        show (bodyW op 0 ⟨#[]⟩ [wE x (needOf op 0), wE y (needOf op 1)]).length = _
        rw [body_bin ho, List.length_append, List.length_cons]
      rw [sizeE_bin]
      omega

theorem joinTail_app (sep : List UInt8) (a b : List (List UInt8)) : Lib.joinTail sep (a ++ b) = Lib.joinTail sep a ++ Lib.joinTail sep b := by simp [Lib.joinTail]
/-- Words one behind the other, joined. -/
theorem joinB_app {a b : List W} (ha : a ≠ []) (hb : b ≠ []) : joinB (a ++ b) = joinB a ++ 32 :: joinB b := by
  cases a with
  | nil => exact absurd rfl ha
  | cons x a =>
    cases b with
    | nil => exact absurd rfl hb
    | cons y b =>
      unfold joinB
      rw [List.cons_append, List.map_cons, List.map_cons, List.map_cons, Lib.join_cons, Lib.join_cons, Lib.join_cons, List.map_append, joinTail_app, List.map_cons]
      have : Lib.joinTail [32] (y.2.data.toList :: b.map (·.2.data.toList)) = 32 :: (y.2.data.toList ++ Lib.joinTail [32] (b.map (·.2.data.toList))) := by simp [Lib.joinTail]
      rw [this]
      simp
theorem joinB_single (x : W) : joinB [x] = x.2.data.toList := by unfold joinB; simp [Lib.join_one]
theorem joinB_cons (x : W) {a : List W} (h : a ≠ []) : joinB (x :: a) = x.2.data.toList ++ 32 :: joinB a := by
  have := joinB_app (a := [x]) (b := a) (by simp) h
  rw [joinB_single] at this
  simpa using this
theorem joinB_snoc {a : List W} (h : a ≠ []) (x : W) : joinB (a ++ [x]) = joinB a ++ 32 :: x.2.data.toList := by
  rw [joinB_app h (by simp), joinB_single]
/-- The text of a valid expression. -/
def textE (e : E) : ByteArray := ⟨(joinB (wE e 1)).toArray⟩
/-- What ExprText returns. -/
noncomputable def textF (e : E) : ByteArray × Bool := if validE e = true then (textE e, true) else (⟨#[]⟩, false)
theorem allV_to {ws : List W} (h : AllV ws) : validTo ws ws.length := fun _ hj _ => h _ (List.getElem_mem hj)
theorem text_words {e : E} (h : validE e = true) : AllV (wE e 1) ∧ (wE e 1).length ≤ 180 ∧ (joinB (wE e 1)).length ≤ 900 := by
  have hv := wE_valid 6 e (validE_form h) 1
  have hb := wE_bd 6 e (validE_form h) 1
  have hs := validE_size h
  have hj := joinB_len (wE e 1).length (Nat.le_refl _) (allV_to hv)
  rw [List.take_length] at hj
  exact ⟨hv, by omega, by omega⟩
theorem text_join {e : E} (h : validE e = true) : joinF (wE e 1) = (textE e, true) := by
  obtain ⟨h1, h2, h3⟩ := text_words h
  exact joinF_yes (by omega) (allV_to h1)
theorem textE_size {e : E} (h : validE e = true) : (textE e).size ≤ 900 := by
  obtain ⟨h1, h2, h3⟩ := text_words h
  show (joinB (wE e 1)).toArray.size ≤ 900
  simpa using h3
/-- Words joined, as a text. -/
def tx (l : List W) : ByteArray := ⟨(joinB l).toArray⟩
theorem ba_ext {a b : ByteArray} (h : a.data.toList = b.data.toList) : a = b := by
  cases a; cases b
  simp only [Array.toList_inj] at h
  rw [h]
theorem tx_list (l : List W) : (tx l).data.toList = joinB l := by unfold tx; simp
theorem tx_app {a b : List W} (ha : a ≠ []) (hb : b ≠ []) : tx (a ++ b) = tx a ++ ⟨#[32]⟩ ++ tx b := by
  apply ba_ext
  rw [tx_list, joinB_app ha hb]
  simp [tx_list]
theorem tx_one (k : Int) (s : ByteArray) : tx [(k, s)] = s := by
  apply ba_ext
  rw [tx_list, joinB_single]
theorem tx_br {l : List W} (h : l ≠ []) : tx ((3, lpS) :: (l ++ [(3, rpS)])) = (⟨#[40, 32]⟩ ++ tx l) ++ ⟨#[32, 41]⟩ := by
  apply ba_ext
  rw [tx_list, joinB_cons _ (by simp), joinB_snoc h]
  simp [tx_list, lpS, rpS]
theorem tx_un (op : Int) {l : List W} (h : l ≠ []) : tx ((3, sgnS op) :: l) = (sgnS op ++ ⟨#[32]⟩) ++ tx l := by
  apply ba_ext
  rw [tx_list, joinB_cons _ h]
  simp [tx_list]
theorem tx_bin (op : Int) {a b : List W} (ha : a ≠ []) (hb : b ≠ []) : tx (a ++ (3, sgnS op) :: b) = (((tx a ++ ⟨#[32]⟩) ++ sgnS op) ++ ⟨#[32]⟩) ++ tx b := by
  apply ba_ext
  rw [tx_list, joinB_app ha (by simp), joinB_cons _ hb]
  simp [tx_list]
theorem tx_call0 (s : ByteArray) : tx [(1, s), (3, lpS)] = s ++ ⟨#[32, 40]⟩ := by
  apply ba_ext
  rw [tx_list, joinB_cons _ (by simp), joinB_single]
  simp [lpS]
theorem tx_first {l b : List W} (hl : l ≠ []) (hb : b ≠ []) : tx (l ++ b) = (tx l ++ ⟨#[32]⟩) ++ tx b := tx_app hl hb
theorem tx_next {l b : List W} (hl : l ≠ []) (hb : b ≠ []) : tx (l ++ (3, cmS) :: b) = ((tx l ++ ⟨#[32, 44]⟩) ++ ⟨#[32]⟩) ++ tx b := by
  apply ba_ext
  rw [tx_list, joinB_app hl (by simp), joinB_cons _ hb]
  simp [tx_list, cmS]
theorem tx_end {l : List W} (hl : l ≠ []) : tx (l ++ [(3, rpS)]) = tx l ++ ⟨#[32, 41]⟩ := by
  apply ba_ext
  rw [tx_list, joinB_snoc hl]
  simp [tx_list, rpS]
/-- Texts are short. -/
theorem tx_size {l : List W} (h : AllV l) : (tx l).size ≤ 5 * l.length := by
  have := joinB_len l.length (Nat.le_refl _) (allV_to h)
  rw [List.take_length] at this
  show (joinB l).toArray.size ≤ _
  simpa using this
end Go.Proofs.YtkhcfhhejmkikaaGreatDoor

namespace Go.Proofs.YtkhcfhhejmkikaaGreatDoor
open Go.RowKit

/-- What reading words comes to. -/
noncomputable def readW (ws : List W) : E × Bool := match rdL nmB 6100 1 ws with
  | some (e, []) => if validE e = true then (e, true) else (E.none, false)
  | _ => (E.none, false)
/-- What ReadExpr returns. -/
noncomputable def readF (s : ByteArray) : E × Bool := if (cutRes s).2 = true then readW (cutRes s).1 else (E.none, false)
theorem text_cut {e : E} (h : validE e = true) : cutRes (textE e) = (wE e 1, true) := by
  obtain ⟨h1, h2, h3⟩ := text_words h
  have hc : cutF (textE e) 0 = some (wE e 1) := by
    rw [cut_list]
    show cutL (joinB (wE e 1)).toArray.toList = _
    have := cutL_join h1 (wE e 1).length (Nat.le_refl _)
    rw [List.take_length] at this
    simpa using this
  have hs := textE_size h
  exact cutRes_yes (by omega) hc (by omega)
theorem readW_back {e : E} (h : validE e = true) : readW (wE e 1) = (e, true) := by
  obtain ⟨h1, h2, h3⟩ := text_words h
  obtain ⟨m', hm', he⟩ := (back nmB nmB_dec 6 e (validE_form h)).1 1 6100 [] (by omega) (by omega) (Stop.nil 1) (by simp; omega)
  rw [List.append_nil, rdO_stop (by omega) (opAt_none fun _ _ _ _ => rfl)] at he
  unfold readW
  rw [he]
  dsimp only
  rw [if_pos h]
/-- An expression is read back from its text. -/
theorem read_text {e : E} (h : validE e = true) : readF (textE e) = (e, true) := by
  unfold readF
  rw [text_cut h]
  dsimp only
  rw [if_pos rfl]
  exact readW_back h
theorem text_inj {a b : E} (ha : validE a = true) (hb : validE b = true) (h : textE a = textE b) : a = b := by
  have h1 := read_text ha
  rw [h, read_text hb] at h1
  injection h1 with h1 _
  exact h1.symm
theorem readW_yes {ws : List W} {e : E} (h : readW ws = (e, true)) : rdL nmB 6100 1 ws = some (e, []) ∧ validE e = true := by
  unfold readW at h
  split at h
  · rename_i x hr
    split at h
    · rename_i hv
      injection h with h _
      subst h
      exact ⟨hr, hv⟩
    · injection h with _ h; cases h
  · injection h with _ h; cases h
theorem readW_none {ws : List W} {e : E} (h : readW ws = (e, false)) : e = E.none := by
  unfold readW at h
  split at h
  · split at h
    · injection h with _ h; cases h
    · injection h with h _; exact h.symm
  · injection h with h _; exact h.symm
theorem readF_yes {s : ByteArray} {e : E} (h : readF s = (e, true)) : validE e = true ∧ ∃ ws, cutRes s = (ws, true) ∧ rdL nmB 6100 1 ws = some (e, []) ∧ (wE e 1).length ≤ ws.length := by
  unfold readF at h
  split at h
  · rename_i hc
    obtain ⟨h1, h2⟩ := readW_yes h
    refine ⟨h2, (cutRes s).1, ?_, h1, ?_⟩
    · rw [← hc]
    · have := ((rd_less nmB 6100).L 1 _ _ _ (by omega) h1).2.2.2
      simpa using this
  · injection h with _ h; cases h
theorem readF_none {s : ByteArray} {e : E} (h : readF s = (e, false)) : e = E.none := by
  unfold readF at h
  split at h
  · exact readW_none h
  · injection h with h _; exact h.symm
end Go.Proofs.YtkhcfhhejmkikaaGreatDoor

namespace Go.Proofs.YtkhcfhhejmkikaaGreatDoor
open Go.RowKit
set_option maxRecDepth 100000

theorem plainF_text {e : E} (h : validE e = true) : plainF (textE e) = (textE e, true) := by
  unfold plainF
  rw [text_cut h]
  dsimp only
  rw [if_pos rfl]
  exact text_join h
theorem textF_yes {e : E} (h : validE e = true) : textF e = (textE e, true) := by unfold textF; rw [if_pos h]
theorem textF_no {e : E} (h : validE e = false) : textF e = (⟨#[]⟩, false) := by unfold textF; rw [h]; rfl
set_option maxHeartbeats 2000000 in
theorem drawExprText_any (A : Option Addr) (l : List UInt8) (cap : Nat) (w : World) (h : Bytes w w.heap.size A l) (hn : l.length ≤ cap) (hcap : cap ≤ 9223372036854775807) :
    Calls Tryz.prog 14 #[.slice A l.length cap] w (Dr1 w) := by
  have hb0 := (Below.refl w.heap.size w).alloc (Nat.le_refl _) (.cells #[.int .i64 0, .int .i64 0, .string ⟨#[]⟩, .slice none 0 0] 24)
  have R0 := Lib.hid (Res.new w (.int .i64 0) (.int .i64 0) (.string ⟨#[]⟩) (.slice none 0 0) 24)
  have OP := l30Open_any A l cap (w.alloc (.cells #[.int .i64 0, .int .i64 0, .string ⟨#[]⟩, .slice none 0 0] 24)) (by
    intro hne
    obtain ⟨b, o, e, hb, hc⟩ := h hne
    exact ⟨b, o, e, Nat.lt_of_lt_of_le hb hb0.size, fun j hj => (hb0.cell (p := ⟨b, _, none⟩) hb).trans (hc j hj)⟩) hn hcap
  have HB0 := Lib.hid hb0
  clear h hb0
  go_enter Tryz.func14, Tryz.ntmps14
  go_wp2_with fail
  generalize w.alloc (.cells #[.int .i64 0, .int .i64 0, .string ⟨#[]⟩, .slice none 0 0] 24) = w0 at *
  refine Calls.mono OP ?_
  rintro ee w1 ⟨rfl, hr1, hb1⟩
  have LX := Lib.hid (l2Bent_any w0.heap.size 0 w1 hr1 (by omega))
  have hl0 := R0.out.lt
  have R1 := Lib.hid (R0.out.below hb1 hl0)
  have HB1 := Lib.hid (HB0.out.trans (hb1.mono (Nat.le_of_lt hl0)))
  have hs1 := hb1.size
  clear hb1
  clear OP
  go_wp2_with fail
  refine Calls.mono LX.out ?_
  rintro ee w2 ⟨e, A2, c2, rfl, hk2, hbk, hd2⟩
  unfold exV
  have R2 := R1.out.below hd2.2.below hl0
  have HB2 := Lib.hid (HB1.out.trans (hd2.2.below.mono (Nat.le_of_lt hl0)))
  have HK := Lib.hid hk2
  have hq : w.heap.size < w1.heap.size := Nat.lt_of_lt_of_le hl0 hs1
  obtain ⟨c0, c1, c3, c4⟩ := R2.c
  have f0 := R2.f 0
  have f1 := R2.f 1
  have f2 := R2.f 2
  have f3 := R2.f 3
  clear hd2 hk2 R2 R1 R0 LX HB0 HB1
  go_wp2_with fail
  refine bodyPost_ret (v := .agg #[.int .i64 e.op, .int .i64 e.n, .string e.name, .slice A2 e.kids.length c2]) (by simp [results, Tryz.results14, go_sem, c0, c1, c3, c4]) rfl ⟨e, A2, c2, rfl, ?_, hbk, ?_⟩
  · exact ((((HK.out.set hq 0 _).set hq 1 _).set hq 2 _).set hq 3 _).pd.wide (Nat.le_of_lt hq) (Nat.le_refl _)
  · exact (((HB2.out.setCell (p := ⟨w.heap.size, 0, none⟩) (Nat.le_refl _) _).setCell (p := ⟨w.heap.size, 1, none⟩) (Nat.le_refl _) _).setCell (p := ⟨w.heap.size, 2, none⟩) (Nat.le_refl _) _).setCell (p := ⟨w.heap.size, 3, none⟩) (Nat.le_refl _) _
end Go.Proofs.YtkhcfhhejmkikaaGreatDoor

namespace Go.Proofs.YtkhcfhhejmkikaaGreatDoor
open Go.RowKit
set_option maxRecDepth 100000

set_option maxHeartbeats 1000000 in
theorem l2Level_any (op : Int) (w : World) :
    Calls Tryz.prog 75 #[.int .i64 op] w fun e w' => e = .returned (.int .i64 (lvl op : Int)) ∧ w = w' := by
  by_cases h : 3 ≤ op ∧ op ≤ 12
  · have : op = 3 ∨ op = 4 ∨ op = 5 ∨ op = 6 ∨ op = 7 ∨ op = 8 ∨ op = 9 ∨ op = 10 ∨ op = 11 ∨ op = 12 := by omega
    rcases this with rfl | rfl | rfl | rfl | rfl | rfl | rfl | rfl | rfl | rfl
    all_goals
      clear h
      go_enter Tryz.func75, Tryz.ntmps75
      go_wp2
      go_ret
      exact ⟨rfl, rfl⟩
  · have e1 : lvl op = 6 := by unfold lvl; rw [if_neg (by omega), if_neg (by omega), if_neg (by omega), if_neg (by omega), if_neg (by omega)]
    rw [e1]
    have b3 : (op == 3) = false := beq_no (by omega)
    have b4 : (op == 4) = false := beq_no (by omega)
    have b5 : (op == 5) = false := beq_no (by omega)
    have b6 : (op == 6) = false := beq_no (by omega)
    have b7 : (op == 7) = false := beq_no (by omega)
    have b8 : (op == 8) = false := beq_no (by omega)
    have b9 : (op == 9) = false := beq_no (by omega)
    have b10 : (op == 10) = false := beq_no (by omega)
    have b11 : (op == 11) = false := beq_no (by omega)
    have b12 : (op == 12) = false := beq_no (by omega)
    clear h e1
    go_enter Tryz.func75, Tryz.ntmps75
    go_wp2
    go_ret
    exact ⟨rfl, rfl⟩
set_option maxHeartbeats 1000000 in
theorem l2Sign_any (op : Int) (w : World) (h : 3 ≤ op ∧ op ≤ 12) :
    Calls Tryz.prog 77 #[.int .i64 op] w fun e w' => e = .returned (.string (sgnS op)) ∧ w = w' := by
  have hi := inB_yes (lo := 3) (x := op) (hi := 12) h
  have : op = 3 ∨ op = 4 ∨ op = 5 ∨ op = 6 ∨ op = 7 ∨ op = 8 ∨ op = 9 ∨ op = 10 ∨ op = 11 ∨ op = 12 := by omega
  clear h
  rcases this with rfl | rfl | rfl | rfl | rfl | rfl | rfl | rfl | rfl | rfl
  all_goals
    replace hi := Lib.hid hi
    go_enter Tryz.func77, Tryz.ntmps77
    go_wp2_with fail
    refine Calls.mono (l1In_b _ _ _ _) ?_
    rintro ee w1 ⟨rfl, rfl⟩
    rw [hi.out]
    go_wp2
    go_ret
    exact ⟨rfl, rfl⟩

theorem byte_cell (W : World) (x : Int) : (convert 30 9 (.slice (some ⟨W.heap.size, 0, none⟩) 1 1)).run Tryz.prog (W.alloc (.cells #[.int .u8 x] 5 (0, 0))) = .ok (.string ⟨#[UInt8.ofNat x.toNat]⟩) (W.alloc (.cells #[.int .u8 x] 5 (0, 0))) := conv_one W x
/-- Behind some rounds: the digits that are written stand behind those of what is left. -/
def decRel (n k : Nat) (out : ByteArray) : Prop := Lib.decDigits n = Lib.decDigits k ++ out.data.toList
theorem decRel_succ {n k : Nat} {out : ByteArray} (h : decRel n k out) (hk : 9 < k) : decRel n (k / 10) ((⟨#[UInt8.ofNat (48 + k % 10)]⟩ : ByteArray) ++ out) := by
  unfold decRel at h ⊢
  rw [h, decDigits_step (by omega : 0 < k), if_neg (by omega)]
  simp
theorem decRel_end {n k : Nat} {out : ByteArray} (h : decRel n k out) (hk : k ≤ 9) : decS n = (⟨#[UInt8.ofNat (48 + k)]⟩ : ByteArray) ++ out := by
  unfold decRel at h
  unfold decS
  rw [h, Lib.decDigits_one (show k < 10 by omega)]
  have : out = ⟨out.data.toList.toArray⟩ := by cases out; simp
  rw [this]
  rw [show (⟨#[UInt8.ofNat (48 + k)]⟩ : ByteArray) = ByteArray.mk [UInt8.ofNat (48 + k)].toArray from rfl, ByteArray.mk_append_mk]
set_option maxHeartbeats 1000000 in
theorem l30Dec_exact (n : Nat) (w : World) (hn : n ≤ 10000) :
    Calls Tryz.prog 76 #[.int .i64 (n : Int)] w fun e w' => e = .returned (.string (decS n)) ∧ Below w.heap.size w w' := by
  go_enter Tryz.func76, Tryz.ntmps76
  go_wp2
  go_loopw [0, 3] (fun i o wr => ∃ (k : Nat) (out : ByteArray), i = .int .i64 k ∧ o = .string out ∧ k + out.size ≤ n ∧ decRel n k out ∧ Below w.heap.size w wr) (fun i _ _ => (intOf i).toNat)
  case atStart => exact ⟨n, ⟨#[]⟩, rfl, rfl, Nat.le_refl _, by unfold decRel; simp, Below.refl _ _⟩
  case round =>
    obtain ⟨k, out, rfl, rfl, hk, hrel, hb⟩ := hrel
    have HR := Lib.hid hrel
    clear hrel
    by_cases h0 : 9 < k
    · have hcv := byte_cell wr (48 + (k : Int) % 10)
      have hx : ((48 + (k : Int) % 10).toNat) = 48 + k % 10 := by omega
      rw [hx] at hcv
      clear hx
      have HS := Lib.hid (decRel_succ HR.out h0)
      have hlen : ((⟨#[UInt8.ofNat (48 + k % 10)]⟩ : ByteArray)).size = 1 := rfl
      generalize hdd : (⟨#[UInt8.ofNat (48 + k % 10)]⟩ : ByteArray) = dd at *
      clear hdd
      have hd1 : dd.size ≤ 1 := by omega
      have HL := Lib.hid hlen
      clear hlen
      have hb2 := hb.alloc hb.size (.cells #[.int .u8 (48 + (k : Int) % 10)] 5)
      clear hb
      go_wp2
      go_roundw
      case rel => exact ⟨k / 10, _, by go_num, rfl, by rw [ByteArray.size_append]; have := HL.out; omega, HS.out, hb2⟩
      case measure => simp only [intOf]; omega
    · have hcv := byte_cell wr (48 + (k : Int))
      have hx : ((48 + (k : Int)).toNat) = 48 + k := by omega
      rw [hx] at hcv
      clear hx
      have HS := Lib.hid (decRel_end HR.out (by omega))
      have hlen : ((⟨#[UInt8.ofNat (48 + k)]⟩ : ByteArray)).size = 1 := rfl
      generalize hdd : (⟨#[UInt8.ofNat (48 + k)]⟩ : ByteArray) = dd at *
      clear hdd
      have hd1 : dd.size ≤ 1 := by omega
      have HL := Lib.hid hlen
      clear hlen
      have hb2 := hb.alloc hb.size (.cells #[.int .u8 (48 + (k : Int))] 5)
      clear hb
      go_wp2
      go_ret
      exact ⟨by rw [HS.out]; rfl, hb2⟩
end Go.Proofs.YtkhcfhhejmkikaaGreatDoor
