/-
  Plain mathematics of the texts of expressions: what ExprText and ReadExpr return; a text is read back. Nothing of a program stands here.
-/
import Derived.Test.YtoepehlndljkoaaDoorJoin
import Derived.Test.YtoepehlndljkoaaDoorEB
namespace Go.Proofs.YtoepehlndljkoaaDoor
open Go.RowKit

/-- The number that a word tells. -/
def nmB (s : ByteArray) : Int := numB s.data.toList
theorem nmB_dec (n : Int) (h0 : 0 ≤ n) (h1 : n ≤ 255) : nmB (decS n.toNat) = n := by
  unfold nmB decS numB
  obtain ⟨c, v⟩ := dec_canon_all n.toNat (by omega)
  rw [if_pos ⟨c, by rw [v]; omega⟩, v]
  omega
theorem valid_num (n : Int) (h0 : 0 ≤ n) (h1 : n ≤ 255) : validB 2 (decS n.toNat) = true := by
  have h := nmB_dec n h0 h1
  unfold nmB at h
  unfold validB
  rw [if_neg (by decide), if_pos rfl, h, decide_eq_true h0]
theorem valid_name {s : ByteArray} (h : nameB s = true) : validB 1 s = true := by unfold validB; rw [if_pos rfl, h]
theorem valid_byte {b : UInt8} (h : cls b.toNat = 3) : validB 3 ⟨#[b]⟩ = true := by
  unfold validB
  rw [if_neg (by decide), if_neg (by decide), if_pos rfl]
  unfold signB
  rw [dif_pos (show (⟨#[b]⟩ : ByteArray).size = 1 from rfl)]
  have e : (⟨#[b]⟩ : ByteArray)[0]'(Nat.zero_lt_one) = b := rfl
  rw [beq_iff_eq]
  exact h
theorem valid_sgn {op : Int} (h : 3 ≤ op ∧ op ≤ 12) : validB 3 (sgnS op) = true := valid_byte (sgn_cls h)
theorem valid_lp : validB 3 lpS = true := valid_byte (by decide)
theorem valid_rp : validB 3 rpS = true := valid_byte (by decide)
theorem valid_cm : validB 3 cmS = true := valid_byte (by decide)
/-- All words are valid. -/
def AllV (ws : List W) : Prop := ∀ x ∈ ws, validB x.1 x.2 = true
theorem AllV.cons {x : W} {ws : List W} (h : validB x.1 x.2 = true) (hs : AllV ws) : AllV (x :: ws) := by
  intro y hy
  rcases List.mem_cons.1 hy with rfl | hy
  · exact h
  · exact hs y hy
theorem AllV.app {a b : List W} (ha : AllV a) (hb : AllV b) : AllV (a ++ b) := by
  intro y hy
  rcases List.mem_append.1 hy with hy | hy
  · exact ha y hy
  · exact hb y hy
theorem AllV.nil : AllV [] := fun _ h => by cases h
theorem allV_commas : ∀ {l : List (List W)}, (∀ p ∈ l, AllV p) → AllV (commas l)
  | [], _ => AllV.nil
  | [p], h => h p (by simp)
  | p :: q :: r, h => (h p (by simp)).app (AllV.cons valid_cm (allV_commas (fun x hx => h x (List.mem_cons_of_mem _ hx))))
theorem AllV.need {b : Bool} {l : List W} (h : AllV l) : AllV (needW b l) := by
  unfold needW
  split
  · exact AllV.cons valid_lp (h.app (AllV.cons valid_rp AllV.nil))
  · exact h
theorem wE_valid : ∀ (d : Nat) (e : E), formE d e = true → ∀ l, AllV (wE e l)
  | 0, e, h => by cases h
  | d + 1, e, h => by
    intro l
    rw [wE_eq]
    refine AllV.need ?_
    rcases form_cases h with ⟨n, rfl, h0, h1⟩ | ⟨s, rfl, hs⟩ | ⟨s, ks, rfl, hs, _, hk⟩ | ⟨op, x, rfl, ho, hx⟩ | ⟨op, x, y, rfl, ho, hx, hy⟩
    · exact AllV.cons (valid_num n h0 h1) AllV.nil
    · exact AllV.cons (valid_name hs) AllV.nil
    · show AllV (bodyW 13 0 s (wL 13 0 ks))
      rw [body_call]
      refine AllV.cons (valid_name hs) (AllV.cons valid_lp (AllV.app (allV_commas fun p hp => ?_) (AllV.cons valid_rp AllV.nil)))
      obtain ⟨j, hj, rfl⟩ := List.getElem_of_mem hp
      have hj' : j < ks.length := by rw [wL_length] at hj; exact hj
      rw [wL_get 13 0 ks j hj' hj]
      exact wE_valid d _ (hk _ (List.getElem_mem hj')) _
    · show AllV (bodyW op 0 ⟨#[]⟩ [wE x (needOf op 0)])
      rw [body_un ho]
      exact AllV.cons (valid_sgn (by omega)) (wE_valid d x hx _)
    · show AllV (bodyW op 0 ⟨#[]⟩ [wE x (needOf op 0), wE y (needOf op 1)])
      rw [body_bin ho]
      exact (wE_valid d x hx _).app (AllV.cons (valid_sgn (by omega)) (wE_valid d y hy _))
theorem needW_len (b : Bool) (l : List W) : (needW b l).length ≤ l.length + 2 := needW_length' b l
theorem commas_bd : ∀ (ks : List E) (i : Nat), (∀ k ∈ ks, ∀ l, (wE k l).length + 1 ≤ 6 * sizeE k) → (commas (wL 13 i ks)).length ≤ 6 * sizeL ks
  | [], _, _ => Nat.zero_le _
  | [x], i, h => by
    have := h x (by simp) (needOf 13 i)
    show (wE x (needOf 13 i)).length ≤ 6 * (sizeE x + 0)
    omega
  | x :: y :: ks, i, h => by
    have h1 := h x (by simp) (needOf 13 i)
    have h2 := commas_bd (y :: ks) (i + 1) (fun k hk => h k (by simp at hk ⊢; right; exact hk))
    show (wE x (needOf 13 i) ++ (3, cmS) :: commas (wL 13 (i + 1) (y :: ks))).length ≤ 6 * (sizeE x + sizeL (y :: ks))
    rw [List.length_append, List.length_cons]
    omega
theorem wE_bd : ∀ (d : Nat) (e : E), formE d e = true → ∀ l, (wE e l).length + 1 ≤ 6 * sizeE e
  | 0, e, h => by cases h
  | d + 1, e, h => by
    intro l
    rw [wE_eq]
    have h2 := needW_len (decide (lvl e.op < l)) (bodyW e.op e.n e.name (wL e.op 0 e.kids))
    rcases form_cases h with ⟨n, rfl, h0, h1⟩ | ⟨s, rfl, hs⟩ | ⟨s, ks, rfl, hs, _, hk⟩ | ⟨op, x, rfl, ho, hx⟩ | ⟨op, x, y, rfl, ho, hx, hy⟩
    · have e1 : (bodyW (numE n).op (numE n).n (numE n).name (wL (numE n).op 0 (numE n).kids)).length = 1 := rfl
      have := sizeE_pos (numE n)
      omega
    · have e1 : (bodyW (varE s).op (varE s).n (varE s).name (wL (varE s).op 0 (varE s).kids)).length = 1 := rfl
      have := sizeE_pos (varE s)
      omega
    · have hb := commas_bd ks 0 (fun k hk' l => wE_bd d k (hk k hk') l)
      have e1 : (bodyW (callE s ks).op (callE s ks).n (callE s ks).name (wL (callE s ks).op 0 (callE s ks).kids)).length = (commas (wL 13 0 ks)).length + 3 := by
        show ((1, s) :: (3, lpS) :: (commas (wL 13 0 ks) ++ [(3, rpS)]) : List W).length = _
        simp
      rw [sizeE_call]
      omega
    · have hb := wE_bd d x hx (needOf op 0)
      have e1 : (bodyW (unE op x).op (unE op x).n (unE op x).name (wL (unE op x).op 0 (unE op x).kids)).length = (wE x (needOf op 0)).length + 1 := by
        show (bodyW op 0 ⟨#[]⟩ [wE x (needOf op 0)]).length = _
        rw [body_un ho, List.length_cons]
      rw [sizeE_un]
      omega
    · have hb := wE_bd d x hx (needOf op 0)
      have hb' := wE_bd d y hy (needOf op 1)
      have e1 : (bodyW (binE op x y).op (binE op x y).n (binE op x y).name (wL (binE op x y).op 0 (binE op x y).kids)).length = (wE x (needOf op 0)).length + ((wE y (needOf op 1)).length + 1) := by
        show (bodyW op 0 ⟨#[]⟩ [wE x (needOf op 0), wE y (needOf op 1)]).length = _
        rw [body_bin ho, List.length_append, List.length_cons]
      rw [sizeE_bin]
      omega

theorem joinTail_app (sep : List UInt8) (a b : List (List UInt8)) : Lib.joinTail sep (a ++ b) = Lib.joinTail sep a ++ Lib.joinTail sep b := by simp [Lib.joinTail]
/-- Words one behind the other, joined. -/
theorem joinB_app {a b : List W} (ha : a ≠ []) (hb : b ≠ []) : joinB (a ++ b) = joinB a ++ 32 :: joinB b := by
  cases a with
  | nil => exact absurd rfl ha
  | cons x a =>
    cases b with
    | nil => exact absurd rfl hb
    | cons y b =>
      unfold joinB
      rw [List.cons_append, List.map_cons, List.map_cons, List.map_cons, Lib.join_cons, Lib.join_cons, Lib.join_cons, List.map_append, joinTail_app, List.map_cons]
      have : Lib.joinTail [32] (y.2.data.toList :: b.map (·.2.data.toList)) = 32 :: (y.2.data.toList ++ Lib.joinTail [32] (b.map (·.2.data.toList))) := by simp [Lib.joinTail]
      rw [this]
      simp
theorem joinB_single (x : W) : joinB [x] = x.2.data.toList := by unfold joinB; simp [Lib.join_one]
theorem joinB_cons (x : W) {a : List W} (h : a ≠ []) : joinB (x :: a) = x.2.data.toList ++ 32 :: joinB a := by
  have := joinB_app (a := [x]) (b := a) (by simp) h
  rw [joinB_single] at this
  simpa using this
theorem joinB_snoc {a : List W} (h : a ≠ []) (x : W) : joinB (a ++ [x]) = joinB a ++ 32 :: x.2.data.toList := by
  rw [joinB_app h (by simp), joinB_single]
/-- The text of a valid expression. -/
def textE (e : E) : ByteArray := ⟨(joinB (wE e 1)).toArray⟩
/-- What ExprText returns. -/
noncomputable def textF (e : E) : ByteArray × Bool := if validE e = true then (textE e, true) else (⟨#[]⟩, false)
theorem allV_to {ws : List W} (h : AllV ws) : validTo ws ws.length := fun _ hj _ => h _ (List.getElem_mem hj)
theorem text_words {e : E} (h : validE e = true) : AllV (wE e 1) ∧ (wE e 1).length ≤ 180 ∧ (joinB (wE e 1)).length ≤ 900 := by
  have hv := wE_valid 6 e (validE_form h) 1
  have hb := wE_bd 6 e (validE_form h) 1
  have hs := validE_size h
  have hj := joinB_len (wE e 1).length (Nat.le_refl _) (allV_to hv)
  rw [List.take_length] at hj
  exact ⟨hv, by omega, by omega⟩
theorem text_join {e : E} (h : validE e = true) : joinF (wE e 1) = (textE e, true) := by
  obtain ⟨h1, h2, h3⟩ := text_words h
  exact joinF_yes (by omega) (allV_to h1)
theorem textE_size {e : E} (h : validE e = true) : (textE e).size ≤ 900 := by
  obtain ⟨h1, h2, h3⟩ := text_words h
  show (joinB (wE e 1)).toArray.size ≤ 900
  simpa using h3
/-- Words joined, as a text. -/
def tx (l : List W) : ByteArray := ⟨(joinB l).toArray⟩
theorem ba_ext {a b : ByteArray} (h : a.data.toList = b.data.toList) : a = b := by
  cases a; cases b
  simp only [Array.toList_inj] at h
  rw [h]
theorem tx_list (l : List W) : (tx l).data.toList = joinB l := by unfold tx; simp
theorem tx_app {a b : List W} (ha : a ≠ []) (hb : b ≠ []) : tx (a ++ b) = tx a ++ ⟨#[32]⟩ ++ tx b := by
  apply ba_ext
  rw [tx_list, joinB_app ha hb]
  simp [tx_list]
theorem tx_one (k : Int) (s : ByteArray) : tx [(k, s)] = s := by
  apply ba_ext
  rw [tx_list, joinB_single]
theorem tx_br {l : List W} (h : l ≠ []) : tx ((3, lpS) :: (l ++ [(3, rpS)])) = (⟨#[40, 32]⟩ ++ tx l) ++ ⟨#[32, 41]⟩ := by
  apply ba_ext
  rw [tx_list, joinB_cons _ (by simp), joinB_snoc h]
  simp [tx_list, lpS, rpS]
theorem tx_un (op : Int) {l : List W} (h : l ≠ []) : tx ((3, sgnS op) :: l) = (sgnS op ++ ⟨#[32]⟩) ++ tx l := by
  apply ba_ext
  rw [tx_list, joinB_cons _ h]
  simp [tx_list]
theorem tx_bin (op : Int) {a b : List W} (ha : a ≠ []) (hb : b ≠ []) : tx (a ++ (3, sgnS op) :: b) = (((tx a ++ ⟨#[32]⟩) ++ sgnS op) ++ ⟨#[32]⟩) ++ tx b := by
  apply ba_ext
  rw [tx_list, joinB_app ha (by simp), joinB_cons _ hb]
  simp [tx_list]
theorem tx_call0 (s : ByteArray) : tx [(1, s), (3, lpS)] = s ++ ⟨#[32, 40]⟩ := by
  apply ba_ext
  rw [tx_list, joinB_cons _ (by simp), joinB_single]
  simp [lpS]
theorem tx_first {l b : List W} (hl : l ≠ []) (hb : b ≠ []) : tx (l ++ b) = (tx l ++ ⟨#[32]⟩) ++ tx b := tx_app hl hb
theorem tx_next {l b : List W} (hl : l ≠ []) (hb : b ≠ []) : tx (l ++ (3, cmS) :: b) = ((tx l ++ ⟨#[32, 44]⟩) ++ ⟨#[32]⟩) ++ tx b := by
  apply ba_ext
  rw [tx_list, joinB_app hl (by simp), joinB_cons _ hb]
  simp [tx_list, cmS]
theorem tx_end {l : List W} (hl : l ≠ []) : tx (l ++ [(3, rpS)]) = tx l ++ ⟨#[32, 41]⟩ := by
  apply ba_ext
  rw [tx_list, joinB_snoc hl]
  simp [tx_list, rpS]
/-- Texts are short. -/
theorem tx_size {l : List W} (h : AllV l) : (tx l).size ≤ 5 * l.length := by
  have := joinB_len l.length (Nat.le_refl _) (allV_to h)
  rw [List.take_length] at this
  show (joinB l).toArray.size ≤ _
  simpa using this
end Go.Proofs.YtoepehlndljkoaaDoor
