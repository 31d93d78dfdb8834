/-
  Plain mathematics of reading: what is read is shorter than what stood there, and written in no more words. Nothing of a program stands here.
-/
import Derived.Test.YtoepehlndljkoaaDoorEW
namespace Go.Proofs.YtoepehlndljkoaaDoor

theorem isT_cons {ws : List W} {t : ByteArray} (h : isT ws t = true) : ∃ w r, ws = w :: r ∧ w.2 = t := by
  cases ws with
  | nil => cases h
  | cons w r => exact ⟨w, r, rfl, by simpa [isT] using h⟩
theorem find8 {p : Int → Bool} {op : Int} (h : ([3, 4, 5, 6, 7, 8, 9, 10] : List Int).find? p = some op) : p op = true ∧ 3 ≤ op ∧ op ≤ 10 := by
  have h1 := List.find?_some h
  have h2 := List.mem_of_find?_eq_some h
  simp only [List.mem_cons, List.not_mem_nil, or_false] at h2
  exact ⟨h1, by omega, by omega⟩
theorem opAt_some {l : Nat} {ws : List W} {op : Int} (h : opAt l ws = some op) : 3 ≤ op ∧ op ≤ 10 ∧ lvl op = l ∧ isT ws (sgnS op) = true := by
  unfold opAt at h
  obtain ⟨h1, h2, h3⟩ := find8 h
  rw [Bool.and_eq_true, decide_eq_true_eq] at h1
  exact ⟨h2, h3, h1.1, h1.2⟩
theorem aheadAt_some {ws : List W} {op : Int} (h : aheadAt ws = some op) : (op = 11 ∨ op = 12) ∧ isT ws (sgnS op) = true := by
  unfold aheadAt at h
  have h1 := List.find?_some h
  have h2 := List.mem_of_find?_eq_some h
  simp only [List.mem_cons, List.not_mem_nil, or_false] at h2
  exact ⟨h2, h1⟩

theorem lvl_bd (op : Int) : 1 ≤ lvl op ∧ lvl op ≤ 6 := by unfold lvl; constructor <;> (repeat' split) <;> omega
theorem needW_length (b : Bool) (l : List W) : l.length ≤ (needW b l).length := by
  unfold needW; split
  · simp; omega
  · exact Nat.le_refl _
theorem needW_length' (b : Bool) (l : List W) : (needW b l).length ≤ l.length + 2 := by
  unfold needW; split
  · simp
  · omega
/-- Where less is needed, no more words are. -/
theorem wE_less (e : E) {l l' : Nat} (h : l ≤ l') : (wE e l).length ≤ (wE e l').length := by
  rw [wE_eq, wE_eq]
  by_cases h1 : lvl e.op < l
  · rw [decide_eq_true h1, decide_eq_true (show lvl e.op < l' by omega)]; exact Nat.le_refl _
  · rw [decide_eq_false h1]; exact needW_length _ _
theorem wE_two (e : E) (l l' : Nat) : (wE e l).length ≤ (wE e l').length + 2 := by
  rw [wE_eq, wE_eq]
  have := needW_length' (decide (lvl e.op < l)) (bodyW e.op e.n e.name (wL e.op 0 e.kids))
  have := needW_length (decide (lvl e.op < l')) (bodyW e.op e.n e.name (wL e.op 0 e.kids))
  omega
theorem wE_bare (e : E) {l : Nat} (h : l ≤ lvl e.op) : wE e l = bodyW e.op e.n e.name (wL e.op 0 e.kids) := by
  rw [wE_eq, decide_eq_false (by omega)]; rfl
theorem wE_bin {op : Int} (h : 3 ≤ op ∧ op ≤ 10) (x y : E) {l : Nat} (hl : l ≤ lvl op) : wE (binE op x y) l = wE x (lvl op) ++ (3, sgnS op) :: wE y (lvl op + 1) := by
  rw [wE_bare _ (show l ≤ lvl (binE op x y).op from hl)]
  show bodyW op 0 ⟨#[]⟩ [wE x (needOf op 0), wE y (needOf op 1)] = _
  have e0 : needOf op 0 = lvl op := by unfold needOf; rw [if_neg (by omega), if_neg (by omega)]; rfl
  have e1 : needOf op 1 = lvl op + 1 := by unfold needOf; rw [if_neg (by omega), if_neg (by omega)]
  rw [body_bin h, e0, e1]
theorem lvl_un {op : Int} (h : op = 11 ∨ op = 12) : lvl op = 5 := by rcases h with rfl | rfl <;> rfl
theorem wE_un {op : Int} (h : op = 11 ∨ op = 12) (x : E) {l : Nat} (hl : l ≤ 5) : wE (unE op x) l = (3, sgnS op) :: wE x 5 := by
  rw [wE_bare _ (show l ≤ lvl (unE op x).op by show l ≤ lvl op; rw [lvl_un h]; exact hl)]
  show bodyW op 0 ⟨#[]⟩ [wE x (needOf op 0)] = _
  have e0 : needOf op 0 = 5 := by unfold needOf; rw [if_neg (by omega), if_pos h]
  rw [body_un h, e0]
theorem wE_num (n : Int) {l : Nat} (hl : l ≤ 6) : wE (numE n) l = [(2, decS n.toNat)] := wE_bare _ hl
theorem wE_var (s : ByteArray) {l : Nat} (hl : l ≤ 6) : wE (varE s) l = [(1, s)] := wE_bare _ hl
theorem wE_call (s : ByteArray) (ks : List E) {l : Nat} (hl : l ≤ 6) : wE (callE s ks) l = (1, s) :: (3, lpS) :: (commas (wL 13 0 ks) ++ [(3, rpS)]) := wE_bare _ hl
theorem sizeE_bin (op : Int) (x y : E) : sizeE (binE op x y) = 1 + (sizeE x + sizeE y) := by show 1 + (sizeE x + (sizeE y + 0)) = _; omega
theorem sizeE_un (op : Int) (x : E) : sizeE (unE op x) = 1 + sizeE x := by show 1 + (sizeE x + 0) = _; omega
theorem sizeE_call (s : ByteArray) (ks : List E) : sizeE (callE s ks) = 1 + sizeL ks := rfl
/-- The words of Kids read so far. -/
theorem commas_len (acc : List E) (e : E) : (commas (wL 13 0 (acc ++ [e]))).length ≤ (commas (wL 13 0 acc)).length + (if acc = [] then 0 else 1) + (wE e 1).length := by
  rw [wL_app]
  have e1 : wL 13 (0 + acc.length) [e] = [wE e 1] := by show [wE e (needOf 13 _)] = _; rfl
  rw [e1]
  by_cases h : acc = []
  · subst h; rw [if_pos rfl]; show (wE e 1).length ≤ 0 + 0 + _; omega
  · rw [if_neg h, commas_snoc _ _ (by
      intro hn
      have := congrArg List.length hn
      rw [wL_length, List.length_nil, List.length_eq_zero_iff] at this
      exact h this), List.length_append, List.length_cons]
    omega

/-- What reading leaves, and what it makes. -/
def Less (l : Nat) (e : E) (r ws : List W) : Prop := r <:+ ws ∧ r.length < ws.length ∧ sizeE e + r.length ≤ ws.length ∧ (wE e l).length + r.length ≤ ws.length
theorem Less.level {l l' : Nat} {e : E} {r ws : List W} (h : Less l e r ws) (hl : l' ≤ l) : Less l' e r ws := ⟨h.1, h.2.1, h.2.2.1, by have := wE_less e hl; have := h.2.2.2; omega⟩
structure RdLess (nm : ByteArray → Int) (m : Nat) : Prop where
  L : ∀ l ws e r, l ≤ 5 → rdL nm m l ws = some (e, r) → Less l e r ws
  O : ∀ l x ws e r, l ≤ 4 → rdO nm m l x ws = some (e, r) → r <:+ ws ∧ sizeE e + r.length ≤ sizeE x + ws.length ∧ (wE e l).length + r.length ≤ (wE x l).length + ws.length
  T : ∀ ws e r, rdT nm m ws = some (e, r) → Less 5 e r ws
  W : ∀ ws e r, rdW nm m ws = some (e, r) → Less 6 e r ws
  C : ∀ ws ks r, rdC nm m ws = some (ks, r) → r <:+ ws ∧ r.length < ws.length ∧ sizeL ks + r.length + 1 ≤ ws.length ∧ (commas (wL 13 0 ks)).length + 1 + r.length ≤ ws.length
  K : ∀ acc ws ks r, rdK nm m acc ws = some (ks, r) → r <:+ ws ∧ r.length < ws.length ∧ sizeL ks + r.length + 1 ≤ sizeL acc + ws.length ∧ (commas (wL 13 0 ks)).length + 1 + r.length ≤ (commas (wL 13 0 acc)).length + (if acc = [] then 0 else 1) + ws.length
theorem rd_less (nm : ByteArray → Int) : ∀ m, RdLess nm m
  | 0 => ⟨fun _ _ _ _ _ h => (by cases h), fun _ _ _ _ _ _ h => (by cases h), fun _ _ _ h => (by cases h), fun _ _ _ h => (by cases h), fun _ _ _ h => (by cases h), fun _ _ _ _ h => (by cases h)⟩
  | m + 1 => by
    have ih := rd_less nm m
    refine ⟨?_, ?_, ?_, ?_, ?_, ?_⟩
    · intro l ws e r hl h
      have h' : (if 4 < l then rdT nm m ws else (rdL nm m (l + 1) ws).bind fun p => rdO nm m l p.1 p.2) = some (e, r) := h
      split at h'
      · exact (ih.T _ _ _ h').level hl
      · rw [Option.bind_eq_some_iff] at h'
        obtain ⟨⟨x, r1⟩, h1, h2⟩ := h'
        have a := ih.L _ _ _ _ (by omega) h1
        have b := ih.O _ _ _ _ _ (by omega) h2
        have c := wE_less x (show l ≤ l + 1 by omega)
        obtain ⟨a1, a2, a3, a4⟩ := a
        obtain ⟨b1, b2, b3⟩ := b
        have b4 := b1.length_le
        dsimp only at b1 b2 b3 b4
        exact ⟨b1.trans a1, by omega, by omega, by omega⟩
    · intro l x ws e r hl h
      have h' : (match opAt l ws with
        | none => some (x, ws)
        | some op => (rdL nm m (l + 1) ws.tail).bind fun p => rdO nm m l (binE op x p.1) p.2) = some (e, r) := h
      split at h'
      · injection h' with h'; injection h' with h1 h2; subst h1; subst h2
        exact ⟨List.suffix_refl _, by omega, by omega⟩
      · rename_i op hop
        obtain ⟨o1, o2, o3, o4⟩ := opAt_some hop
        obtain ⟨w, ws', rfl, ow⟩ := isT_cons o4
        rw [Option.bind_eq_some_iff] at h'
        obtain ⟨⟨y, r1⟩, h1, h2⟩ := h'
        obtain ⟨a1, a2, a3, a4⟩ := ih.L _ _ _ _ (by omega) h1
        obtain ⟨b1, b2, b3⟩ := ih.O _ _ _ _ _ hl h2
        have b4 := b1.length_le
        dsimp only [List.tail_cons] at a1 a2 a3 a4 b1 b2 b3 b4
        rw [sizeE_bin] at b2
        rw [wE_bin ⟨o1, o2⟩ _ _ (by omega), o3, List.length_append, List.length_cons] at b3
        refine ⟨(b1.trans a1).trans (List.suffix_cons _ _), ?_, ?_⟩ <;> rw [List.length_cons] <;> omega
    · intro ws e r h
      have h' : (match aheadAt ws with
        | some op => (rdT nm m ws.tail).bind fun p => some (unE op p.1, p.2)
        | none => rdW nm m ws) = some (e, r) := h
      split at h'
      · rename_i op hop
        obtain ⟨o1, o4⟩ := aheadAt_some hop
        obtain ⟨w, ws', rfl, ow⟩ := isT_cons o4
        rw [Option.bind_eq_some_iff] at h'
        obtain ⟨⟨x, r1⟩, h1, h2⟩ := h'
        injection h2 with h2; injection h2 with h2 h3; subst h2; subst h3
        obtain ⟨a1, a2, a3, a4⟩ := ih.T _ _ _ h1
        dsimp only [List.tail_cons] at a1 a2 a3 a4 ⊢
        refine ⟨a1.trans (List.suffix_cons _ _), ?_, ?_, ?_⟩
        · rw [List.length_cons]; omega
        · rw [sizeE_un, List.length_cons]; omega
        · rw [wE_un o1 _ (Nat.le_refl _), List.length_cons, List.length_cons]; omega
      · exact (ih.W _ _ _ h').level (by omega)
    · intro ws e r h
      cases ws with
      | nil => cases h
      | cons w ws =>
        have h' : (if w.2 = lpS then (rdL nm m 1 ws).bind fun p => if isT p.2 rpS = true then some (p.1, p.2.tail) else none
          else if w.1 = 2 then some (numE (nm w.2), ws)
          else if w.1 = 1 then (if isT ws lpS = true then (rdC nm m ws.tail).bind fun p => some (callE w.2 p.1, p.2) else some (varE w.2, ws))
          else none) = some (e, r) := h
        split at h'
        · rw [Option.bind_eq_some_iff] at h'
          obtain ⟨⟨x, r1⟩, h1, h2⟩ := h'
          obtain ⟨a1, a2, a3, a4⟩ := ih.L _ _ _ _ (by omega) h1
          dsimp only at h2 a1 a2 a3 a4
          split at h2
          · rename_i ht
            obtain ⟨w2, r2, rfl, _⟩ := isT_cons ht
            injection h2 with h2; injection h2 with h2 h3; subst h2; subst h3
            have c := wE_two x 6 1
            rw [List.length_cons] at a2 a3 a4
            dsimp only [List.tail_cons]
            refine ⟨((List.suffix_cons _ _).trans a1).trans (List.suffix_cons _ _), ?_, ?_, ?_⟩ <;> rw [List.length_cons] <;> omega
          · cases h2
        · split at h'
          · injection h' with h'; injection h' with h1 h2; subst h1; subst h2
            refine ⟨List.suffix_cons _ _, ?_, ?_, ?_⟩
            · rw [List.length_cons]; omega
            · rw [List.length_cons]; show 1 + 0 + _ ≤ _; omega
            · rw [wE_num _ (Nat.le_refl _), List.length_cons, List.length_cons]; simp; omega
          · split at h'
            · split at h'
              · rename_i ht
                obtain ⟨w2, r2, rfl, _⟩ := isT_cons ht
                rw [Option.bind_eq_some_iff] at h'
                obtain ⟨⟨ks, r1⟩, h1, h2⟩ := h'
                injection h2 with h2; injection h2 with h2 h3; subst h2; subst h3
                obtain ⟨a1, a2, a3, a4⟩ := ih.C _ _ _ h1
                dsimp only [List.tail_cons] at a1 a2 a3 a4 ⊢
                refine ⟨(a1.trans (List.suffix_cons _ _)).trans (List.suffix_cons _ _), ?_, ?_, ?_⟩
                · simp only [List.length_cons]; omega
                · rw [sizeE_call]; simp only [List.length_cons]; omega
                · rw [wE_call _ _ (Nat.le_refl _)]; simp only [List.length_cons, List.length_append, List.length_nil]; omega
              · injection h' with h'; injection h' with h1 h2; subst h1; subst h2
                refine ⟨List.suffix_cons _ _, ?_, ?_, ?_⟩
                · rw [List.length_cons]; omega
                · rw [List.length_cons]; show 1 + 0 + _ ≤ _; omega
                · rw [wE_var _ (Nat.le_refl _), List.length_cons, List.length_cons]; simp; omega
            · cases h'
    · intro ws ks r h
      have h' : (if isT ws rpS = true then some ([], ws.tail) else rdK nm m [] ws) = some (ks, r) := h
      split at h'
      · rename_i ht
        obtain ⟨w2, r2, rfl, _⟩ := isT_cons ht
        injection h' with h'; injection h' with h1 h2; subst h1; subst h2
        dsimp only [List.tail_cons]
        refine ⟨List.suffix_cons _ _, ?_, ?_, ?_⟩
        · rw [List.length_cons]; omega
        · rw [List.length_cons]; show 0 + _ + 1 ≤ _; omega
        · rw [List.length_cons]; show 0 + 1 + _ ≤ _; omega
      · obtain ⟨a1, a2, a3, a4⟩ := ih.K _ _ _ _ h'
        rw [if_pos rfl] at a4
        have e0 : (commas (wL 13 0 [])).length = 0 := rfl
        have e1 : sizeL [] = 0 := rfl
        exact ⟨a1, a2, by omega, by omega⟩
    · intro acc ws ks r h
      have h' : ((rdL nm m 1 ws).bind fun p =>
        if isT p.2 rpS = true then some (acc ++ [p.1], p.2.tail)
        else if isT p.2 cmS = true then rdK nm m (acc ++ [p.1]) p.2.tail else none) = some (ks, r) := h
      rw [Option.bind_eq_some_iff] at h'
      obtain ⟨⟨x, r1⟩, h1, h2⟩ := h'
      obtain ⟨a1, a2, a3, a4⟩ := ih.L _ _ _ _ (by omega) h1
      have c := commas_len acc x
      dsimp only at h2 a1 a2 a3 a4
      split at h2
      · rename_i ht
        obtain ⟨w2, r2, rfl, _⟩ := isT_cons ht
        injection h2 with h2; injection h2 with h2 h3; subst h2; subst h3
        dsimp only [List.tail_cons] at a1 a2 a3 a4 ⊢
        rw [List.length_cons] at a2 a3 a4
        refine ⟨(List.suffix_cons _ _).trans a1, by omega, ?_, ?_⟩
        · rw [sizeL_app, sizeL_one]; omega
        · omega
      · split at h2
        · rename_i ht
          obtain ⟨w2, r2, rfl, _⟩ := isT_cons ht
          obtain ⟨b1, b2, b3, b4⟩ := ih.K _ _ _ _ h2
          dsimp only [List.tail_cons] at a1 a2 a3 a4 b1 b2 b3 b4
          rw [List.length_cons] at a2 a3 a4
          rw [sizeL_app, sizeL_one] at b3
          rw [if_neg (by simp)] at b4
          refine ⟨(b1.trans (List.suffix_cons _ _)).trans a1, by omega, by omega, by omega⟩
        · cases h2
end Go.Proofs.YtoepehlndljkoaaDoor
