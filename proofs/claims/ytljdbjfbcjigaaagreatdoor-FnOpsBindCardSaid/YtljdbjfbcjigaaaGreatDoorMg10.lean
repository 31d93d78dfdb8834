/-
  Expressions in memory, with what is known of their blocks; what they hold, summed up. Nothing of a program stands here.
-/
import Derived.Test.YtljdbjfbcjigaaaGreatDoorMg5
import Derived.Test.YtljdbjfbcjigaaaGreatDoorMg7
import Derived.Test.YtljdbjfbcjigaaaGreatDoorMg8
import Derived.Test.YtljdbjfbcjigaaaGreatDoorMg9
import Derived.Below
import Derived.Laws.AppendOwn
namespace Go.Proofs.YtljdbjfbcjigaaaGreatDoor
open Go.RowKit

/-- The number that a word tells. -/
def nmB (s : ByteArray) : Int := numB s.data.toList
theorem nmB_dec (n : Int) (h0 : 0 ≤ n) (h1 : n ≤ 255) : nmB (decS n.toNat) = n := by
  unfold nmB decS numB
  obtain ⟨c, v⟩ := dec_canon_all n.toNat (by omega)
  rw [if_pos ⟨c, by rw [v]; omega⟩, v]
  omega
theorem valid_num (n : Int) (h0 : 0 ≤ n) (h1 : n ≤ 255) : validB 2 (decS n.toNat) = true := by
  have h := nmB_dec n h0 h1
  unfold nmB at h
  unfold validB
  rw [if_neg (by decide), if_pos rfl, h, decide_eq_true h0]
theorem valid_name {s : ByteArray} (h : nameB s = true) : validB 1 s = true := by unfold validB; rw [if_pos rfl, h]
theorem valid_byte {b : UInt8} (h : cls b.toNat = 3) : validB 3 ⟨#[b]⟩ = true := by
  unfold validB
  rw [if_neg (by decide), if_neg (by decide), if_pos rfl]
  unfold signB
  rw [dif_pos (show (⟨#[b]⟩ : ByteArray).size = 1 from rfl)]
  have e : (⟨#[b]⟩ : ByteArray)[0]'(Nat.zero_lt_one) = b := rfl
  rw [beq_iff_eq]
  exact h
theorem valid_sgn {op : Int} (h : 3 ≤ op ∧ op ≤ 12) : validB 3 (sgnS op) = true := valid_byte (sgn_cls h)
theorem valid_lp : validB 3 lpS = true := valid_byte (by decide)
theorem valid_rp : validB 3 rpS = true := valid_byte (by decide)
theorem valid_cm : validB 3 cmS = true := valid_byte (by decide)
/-- All words are valid. -/
def AllV (ws : List W) : Prop := ∀ x ∈ ws, validB x.1 x.2 = true
theorem AllV.cons {x : W} {ws : List W} (h : validB x.1 x.2 = true) (hs : AllV ws) : AllV (x :: ws) := by
  intro y hy
  rcases List.mem_cons.1 hy with rfl | hy
  · exact h
  · exact hs y hy
theorem AllV.app {a b : List W} (ha : AllV a) (hb : AllV b) : AllV (a ++ b) := by
  intro y hy
  rcases List.mem_append.1 hy with hy | hy
  · exact ha y hy
  · exact hb y hy
theorem AllV.nil : AllV [] := fun _ h => by cases h
theorem allV_commas : ∀ {l : List (List W)}, (∀ p ∈ l, AllV p) → AllV (commas l)
  | [], _ => AllV.nil
  | [p], h => h p (by simp)
  | p :: q :: r, h => (h p (by simp)).app (AllV.cons valid_cm (allV_commas (fun x hx => h x (List.mem_cons_of_mem _ hx))))
theorem AllV.need {b : Bool} {l : List W} (h : AllV l) : AllV (needW b l) := by
  unfold needW
  split
  · exact AllV.cons valid_lp (h.app (AllV.cons valid_rp AllV.nil))
  · exact h
theorem wE_valid : ∀ (d : Nat) (e : E), formE d e = true → ∀ l, AllV (wE e l)
  | 0, e, h => by cases h
  | d + 1, e, h => by
    intro l
    rw [wE_eq]
    refine AllV.need ?_
    rcases form_cases h with ⟨n, rfl, h0, h1⟩ | ⟨s, rfl, hs⟩ | ⟨s, ks, rfl, hs, _, hk⟩ | ⟨op, x, rfl, ho, hx⟩ | ⟨op, x, y, rfl, ho, hx, hy⟩
    · exact AllV.cons (valid_num n h0 h1) AllV.nil
    · exact AllV.cons (valid_name hs) AllV.nil
    · show AllV (bodyW 13 0 s (wL 13 0 ks))
      rw [body_call]
      refine AllV.cons (valid_name hs) (AllV.cons valid_lp (AllV.app (allV_commas fun p hp => ?_) (AllV.cons valid_rp AllV.nil)))
      obtain ⟨j, hj, rfl⟩ := List.getElem_of_mem hp
      have hj' : j < ks.length := by rw [wL_length] at hj; exact hj
      rw [wL_get 13 0 ks j hj' hj]
      exact wE_valid d _ (hk _ (List.getElem_mem hj')) _
    · show AllV (bodyW op 0 ⟨#[]⟩ [wE x (needOf op 0)])
      rw [body_un ho]
      exact AllV.cons (valid_sgn (by omega)) (wE_valid d x hx _)
    · show AllV (bodyW op 0 ⟨#[]⟩ [wE x (needOf op 0), wE y (needOf op 1)])
      rw [body_bin ho]
      exact (wE_valid d x hx _).app (AllV.cons (valid_sgn (by omega)) (wE_valid d y hy _))
theorem needW_len (b : Bool) (l : List W) : (needW b l).length ≤ l.length + 2 := needW_length' b l
theorem commas_bd : ∀ (ks : List E) (i : Nat), (∀ k ∈ ks, ∀ l, (wE k l).length + 1 ≤ 6 * sizeE k) → (commas (wL 13 i ks)).length ≤ 6 * sizeL ks
  | [], _, _ => Nat.zero_le _
  | [x], i, h => by
    have := h x (by simp) (needOf 13 i)
    show (wE x (needOf 13 i)).length ≤ 6 * (sizeE x + 0)
    omega
  | x :: y :: ks, i, h => by
    have h1 := h x (by simp) (needOf 13 i)
    have h2 := commas_bd (y :: ks) (i + 1) (fun k hk => h k (by simp at hk ⊢; right; exact hk))
    show (wE x (needOf 13 i) ++ (3, cmS) :: commas (wL 13 (i + 1) (y :: ks))).length ≤ 6 * (sizeE x + sizeL (y :: ks))
    rw [List.length_append, List.length_cons]
    omega
theorem wE_bd : ∀ (d : Nat) (e : E), formE d e = true → ∀ l, (wE e l).length + 1 ≤ 6 * sizeE e
  | 0, e, h => by cases h
  | d + 1, e, h => by
    intro l
    rw [wE_eq]
    have h2 := needW_len (decide (lvl e.op < l)) (bodyW e.op e.n e.name (wL e.op 0 e.kids))
    rcases form_cases h with ⟨n, rfl, h0, h1⟩ | ⟨s, rfl, hs⟩ | ⟨s, ks, rfl, hs, _, hk⟩ | ⟨op, x, rfl, ho, hx⟩ | ⟨op, x, y, rfl, ho, hx, hy⟩
    · have e1 : (bodyW (numE n).op (numE n).n (numE n).name (wL (numE n).op 0 (numE n).kids)).length = 1 := rfl
      have := sizeE_pos (numE n)
      omega
    · have e1 : (bodyW (varE s).op (varE s).n (varE s).name (wL (varE s).op 0 (varE s).kids)).length = 1 := rfl
      have := sizeE_pos (varE s)
      omega
    · have hb := commas_bd ks 0 (fun k hk' l => wE_bd d k (hk k hk') l)
      have e1 : (bodyW (callE s ks).op (callE s ks).n (callE s ks).name (wL (callE s ks).op 0 (callE s ks).kids)).length = (commas (wL 13 0 ks)).length + 3 := by
        show ((1, s) :: (3, lpS) :: (commas (wL 13 0 ks) ++ [(3, rpS)]) : List W).length = _
        simp
      rw [sizeE_call]
      omega
    · have hb := wE_bd d x hx (needOf op 0)
      have e1 : (bodyW (unE op x).op (unE op x).n (unE op x).name (wL (unE op x).op 0 (unE op x).kids)).length = (wE x (needOf op 0)).length + 1 := by
        show (bodyW op 0 ⟨#[]⟩ [wE x (needOf op 0)]).length = _
        rw [body_un ho, List.length_cons]
      rw [sizeE_un]
      omega
    · have hb := wE_bd d x hx (needOf op 0)
      have hb' := wE_bd d y hy (needOf op 1)
      have e1 : (bodyW (binE op x y).op (binE op x y).n (binE op x y).name (wL (binE op x y).op 0 (binE op x y).kids)).length = (wE x (needOf op 0)).length + ((wE y (needOf op 1)).length + 1) := by
        show (bodyW op 0 ⟨#[]⟩ [wE x (needOf op 0), wE y (needOf op 1)]).length = _
        rw [body_bin ho, List.length_append, List.length_cons]
      rw [sizeE_bin]
      omega

theorem joinTail_app (sep : List UInt8) (a b : List (List UInt8)) : Lib.joinTail sep (a ++ b) = Lib.joinTail sep a ++ Lib.joinTail sep b := by simp [Lib.joinTail]
/-- Words one behind the other, joined. -/
theorem joinB_app {a b : List W} (ha : a ≠ []) (hb : b ≠ []) : joinB (a ++ b) = joinB a ++ 32 :: joinB b := by
  cases a with
  | nil => exact absurd rfl ha
  | cons x a =>
    cases b with
    | nil => exact absurd rfl hb
    | cons y b =>
      unfold joinB
      rw [List.cons_append, List.map_cons, List.map_cons, List.map_cons, Lib.join_cons, Lib.join_cons, Lib.join_cons, List.map_append, joinTail_app, List.map_cons]
      have : Lib.joinTail [32] (y.2.data.toList :: b.map (·.2.data.toList)) = 32 :: (y.2.data.toList ++ Lib.joinTail [32] (b.map (·.2.data.toList))) := by simp [Lib.joinTail]
      rw [this]
      simp
theorem joinB_single (x : W) : joinB [x] = x.2.data.toList := by unfold joinB; simp [Lib.join_one]
theorem joinB_cons (x : W) {a : List W} (h : a ≠ []) : joinB (x :: a) = x.2.data.toList ++ 32 :: joinB a := by
  have := joinB_app (a := [x]) (b := a) (by simp) h
  rw [joinB_single] at this
  simpa using this
theorem joinB_snoc {a : List W} (h : a ≠ []) (x : W) : joinB (a ++ [x]) = joinB a ++ 32 :: x.2.data.toList := by
  rw [joinB_app h (by simp), joinB_single]
/-- The text of a valid expression. -/
def textE (e : E) : ByteArray := ⟨(joinB (wE e 1)).toArray⟩
/-- What ExprText returns. -/
noncomputable def textF (e : E) : ByteArray × Bool := if validE e = true then (textE e, true) else (⟨#[]⟩, false)
theorem allV_to {ws : List W} (h : AllV ws) : validTo ws ws.length := fun _ hj _ => h _ (List.getElem_mem hj)
theorem text_words {e : E} (h : validE e = true) : AllV (wE e 1) ∧ (wE e 1).length ≤ 180 ∧ (joinB (wE e 1)).length ≤ 900 := by
  have hv := wE_valid 6 e (validE_form h) 1
  have hb := wE_bd 6 e (validE_form h) 1
  have hs := validE_size h
  have hj := joinB_len (wE e 1).length (Nat.le_refl _) (allV_to hv)
  rw [List.take_length] at hj
  exact ⟨hv, by omega, by omega⟩
theorem text_join {e : E} (h : validE e = true) : joinF (wE e 1) = (textE e, true) := by
  obtain ⟨h1, h2, h3⟩ := text_words h
  exact joinF_yes (by omega) (allV_to h1)
theorem textE_size {e : E} (h : validE e = true) : (textE e).size ≤ 900 := by
  obtain ⟨h1, h2, h3⟩ := text_words h
  show (joinB (wE e 1)).toArray.size ≤ 900
  simpa using h3
/-- Words joined, as a text. -/
def tx (l : List W) : ByteArray := ⟨(joinB l).toArray⟩
theorem ba_ext {a b : ByteArray} (h : a.data.toList = b.data.toList) : a = b := by
  cases a; cases b
  simp only [Array.toList_inj] at h
  rw [h]
theorem tx_list (l : List W) : (tx l).data.toList = joinB l := by unfold tx; simp
theorem tx_app {a b : List W} (ha : a ≠ []) (hb : b ≠ []) : tx (a ++ b) = tx a ++ ⟨#[32]⟩ ++ tx b := by
  apply ba_ext
  rw [tx_list, joinB_app ha hb]
  simp [tx_list]
theorem tx_one (k : Int) (s : ByteArray) : tx [(k, s)] = s := by
  apply ba_ext
  rw [tx_list, joinB_single]
theorem tx_br {l : List W} (h : l ≠ []) : tx ((3, lpS) :: (l ++ [(3, rpS)])) = (⟨#[40, 32]⟩ ++ tx l) ++ ⟨#[32, 41]⟩ := by
  apply ba_ext
  rw [tx_list, joinB_cons _ (by simp), joinB_snoc h]
  simp [tx_list, lpS, rpS]
theorem tx_un (op : Int) {l : List W} (h : l ≠ []) : tx ((3, sgnS op) :: l) = (sgnS op ++ ⟨#[32]⟩) ++ tx l := by
  apply ba_ext
  rw [tx_list, joinB_cons _ h]
  simp [tx_list]
theorem tx_bin (op : Int) {a b : List W} (ha : a ≠ []) (hb : b ≠ []) : tx (a ++ (3, sgnS op) :: b) = (((tx a ++ ⟨#[32]⟩) ++ sgnS op) ++ ⟨#[32]⟩) ++ tx b := by
  apply ba_ext
  rw [tx_list, joinB_app ha (by simp), joinB_cons _ hb]
  simp [tx_list]
theorem tx_call0 (s : ByteArray) : tx [(1, s), (3, lpS)] = s ++ ⟨#[32, 40]⟩ := by
  apply ba_ext
  rw [tx_list, joinB_cons _ (by simp), joinB_single]
  simp [lpS]
theorem tx_first {l b : List W} (hl : l ≠ []) (hb : b ≠ []) : tx (l ++ b) = (tx l ++ ⟨#[32]⟩) ++ tx b := tx_app hl hb
theorem tx_next {l b : List W} (hl : l ≠ []) (hb : b ≠ []) : tx (l ++ (3, cmS) :: b) = ((tx l ++ ⟨#[32, 44]⟩) ++ ⟨#[32]⟩) ++ tx b := by
  apply ba_ext
  rw [tx_list, joinB_app hl (by simp), joinB_cons _ hb]
  simp [tx_list, cmS]
theorem tx_end {l : List W} (hl : l ≠ []) : tx (l ++ [(3, rpS)]) = tx l ++ ⟨#[32, 41]⟩ := by
  apply ba_ext
  rw [tx_list, joinB_snoc hl]
  simp [tx_list, rpS]
/-- Texts are short. -/
theorem tx_size {l : List W} (h : AllV l) : (tx l).size ≤ 5 * l.length := by
  have := joinB_len l.length (Nat.le_refl _) (allV_to h)
  rw [List.take_length] at this
  show (joinB l).toArray.size ≤ _
  simpa using this
end Go.Proofs.YtljdbjfbcjigaaaGreatDoor

namespace Go.Proofs.YtljdbjfbcjigaaaGreatDoor
open Go.RowKit

/-- What reading words comes to. -/
noncomputable def readW (ws : List W) : E × Bool := match rdL nmB 6100 1 ws with
  | some (e, []) => if validE e = true then (e, true) else (E.none, false)
  | _ => (E.none, false)
/-- What ReadExpr returns. -/
noncomputable def readF (s : ByteArray) : E × Bool := if (cutRes s).2 = true then readW (cutRes s).1 else (E.none, false)
theorem text_cut {e : E} (h : validE e = true) : cutRes (textE e) = (wE e 1, true) := by
  obtain ⟨h1, h2, h3⟩ := text_words h
  have hc : cutF (textE e) 0 = some (wE e 1) := by
    rw [cut_list]
    show cutL (joinB (wE e 1)).toArray.toList = _
    have := cutL_join h1 (wE e 1).length (Nat.le_refl _)
    rw [List.take_length] at this
    simpa using this
  have hs := textE_size h
  exact cutRes_yes (by omega) hc (by omega)
theorem readW_back {e : E} (h : validE e = true) : readW (wE e 1) = (e, true) := by
  obtain ⟨h1, h2, h3⟩ := text_words h
  obtain ⟨m', hm', he⟩ := (back nmB nmB_dec 6 e (validE_form h)).1 1 6100 [] (by omega) (by omega) (Stop.nil 1) (by simp; omega)
  rw [List.append_nil, rdO_stop (by omega) (opAt_none fun _ _ _ _ => rfl)] at he
  unfold readW
  rw [he]
  dsimp only
  rw [if_pos h]
/-- An expression is read back from its text. -/
theorem read_text {e : E} (h : validE e = true) : readF (textE e) = (e, true) := by
  unfold readF
  rw [text_cut h]
  dsimp only
  rw [if_pos rfl]
  exact readW_back h
theorem text_inj {a b : E} (ha : validE a = true) (hb : validE b = true) (h : textE a = textE b) : a = b := by
  have h1 := read_text ha
  rw [h, read_text hb] at h1
  injection h1 with h1 _
  exact h1.symm
theorem readW_yes {ws : List W} {e : E} (h : readW ws = (e, true)) : rdL nmB 6100 1 ws = some (e, []) ∧ validE e = true := by
  unfold readW at h
  split at h
  · rename_i x hr
    split at h
    · rename_i hv
      injection h with h _
      subst h
      exact ⟨hr, hv⟩
    · injection h with _ h; cases h
  · injection h with _ h; cases h
theorem readW_none {ws : List W} {e : E} (h : readW ws = (e, false)) : e = E.none := by
  unfold readW at h
  split at h
  · split at h
    · injection h with _ h; cases h
    · injection h with h _; exact h.symm
  · injection h with h _; exact h.symm
theorem readF_yes {s : ByteArray} {e : E} (h : readF s = (e, true)) : validE e = true ∧ ∃ ws, cutRes s = (ws, true) ∧ rdL nmB 6100 1 ws = some (e, []) ∧ (wE e 1).length ≤ ws.length := by
  unfold readF at h
  split at h
  · rename_i hc
    obtain ⟨h1, h2⟩ := readW_yes h
    refine ⟨h2, (cutRes s).1, ?_, h1, ?_⟩
    · rw [← hc]
    · have := ((rd_less nmB 6100).L 1 _ _ _ (by omega) h1).2.2.2
      simpa using this
  · injection h with _ h; cases h
theorem readF_none {s : ByteArray} {e : E} (h : readF s = (e, false)) : e = E.none := by
  unfold readF at h
  split at h
  · exact readW_none h
  · injection h with h _; exact h.symm
end Go.Proofs.YtljdbjfbcjigaaaGreatDoor

namespace Go.Proofs.YtljdbjfbcjigaaaGreatDoor
open Go.RowKit

/-- Cells from a place on that read as Kids; all that they lead to lies below block B. -/
def RdC (w : World) (B : Nat) : List E → Nat → Nat → Prop
  | [], _, _ => True
  | .mk op n s ks' :: ks, b, o =>
    (w.cell? ⟨b, o, none⟩ = some (.int .i64 op) ∧ w.cell? ⟨b, o + 1, none⟩ = some (.int .i64 n) ∧ w.cell? ⟨b, o + 2, none⟩ = some (.string s)) ∧
    (∃ A cap, w.cell? ⟨b, o + 3, none⟩ = some (.slice A ks'.length cap) ∧ (ks' = [] ∨ ∃ b' o', A = some ⟨b', o', none⟩ ∧ b' < B ∧ RdC w B ks' b' o')) ∧ RdC w B ks b (o + 4)
/-- A slice of Kids that reads as a list. -/
def RdS (w : World) (B : Nat) (ks : List E) (A : Option Addr) : Prop := ks = [] ∨ ∃ b o, A = some ⟨b, o, none⟩ ∧ b < B ∧ RdC w B ks b o
/-- An expression as a value. -/
def exV (e : E) (A : Option Addr) (cap : Nat) : Value := .agg #[.int .i64 e.op, .int .i64 e.n, .string e.name, .slice A e.kids.length cap]
/-- A place that reads as an expression. -/
def RdAt (w : World) (B : Nat) (e : E) (b o : Nat) : Prop :=
  (w.cell? ⟨b, o, none⟩ = some (.int .i64 e.op) ∧ w.cell? ⟨b, o + 1, none⟩ = some (.int .i64 e.n) ∧ w.cell? ⟨b, o + 2, none⟩ = some (.string e.name)) ∧
    ∃ A cap, w.cell? ⟨b, o + 3, none⟩ = some (.slice A e.kids.length cap) ∧ RdS w B e.kids A
theorem RdC_cons (w : World) (B : Nat) (e : E) (ks : List E) (b o : Nat) : RdC w B (e :: ks) b o ↔ RdAt w B e b o ∧ RdC w B ks b (o + 4) := by
  obtain ⟨op, n, s, ks'⟩ := e
  unfold RdAt RdS
  rw [RdC]
  simp only [E.op, E.n, E.name, E.kids, and_assoc]
theorem RdC.get {w : World} {B : Nat} : ∀ {ks : List E} {b o : Nat}, RdC w B ks b o → ∀ {i : Nat} (h : i < ks.length), RdAt w B ks[i] b (o + i * 4)
  | [], _, _, _, i, h => absurd h (by simp)
  | e :: ks, b, o, hr, 0, _ => by
    rw [RdC_cons] at hr
    have e1 : o + 0 * 4 = o := by omega
    rw [e1]; exact hr.1
  | e :: ks, b, o, hr, i + 1, h => by
    rw [RdC_cons] at hr
    have := RdC.get hr.2 (i := i) (by simpa using h)
    have e1 : o + 4 + i * 4 = o + (i + 1) * 4 := by omega
    rw [e1] at this
    exact this
theorem RdC.mk {w : World} {B : Nat} : ∀ {ks : List E} {b o : Nat}, (∀ i, (h : i < ks.length) → RdAt w B ks[i] b (o + i * 4)) → RdC w B ks b o
  | [], _, _, _ => by rw [RdC]; trivial
  | e :: ks, b, o, h => by
    rw [RdC_cons]
    refine ⟨?_, RdC.mk fun i hi => ?_⟩
    · have := h 0 (by simp)
      have e1 : o + 0 * 4 = o := by omega
      rw [e1] at this; exact this
    have := h (i + 1) (by simpa using hi)
    have e1 : o + (i + 1) * 4 = o + 4 + i * 4 := by omega
    rw [e1] at this
    exact this
theorem RdS.at_ {w : World} {B : Nat} {ks : List E} {A : Option Addr} (h : RdS w B ks A) {i : Nat} (hi : i < ks.length) : ∃ b o, A = some ⟨b, o, none⟩ ∧ b < B ∧ RdAt w B ks[i] b (o + i * 4) := by
  rcases h with rfl | ⟨b, o, e, hb, hr⟩
  · exact absurd hi (by simp)
  · exact ⟨b, o, e, hb, hr.get hi⟩
theorem RdS.nil {w : World} {B : Nat} {A : Option Addr} : RdS w B [] A := .inl rfl
/-- What is told of Kids, told of their lists. -/
theorem rd_keep {w w' : World} {B : Nat} (hc : ∀ b o, b < B → w'.cell? ⟨b, o, none⟩ = w.cell? ⟨b, o, none⟩) {B' : Nat} (hB : B ≤ B') : ∀ (N : Nat) (ks : List E) (A : Option Addr), sizeL ks ≤ N → RdS w B ks A → RdS w' B' ks A := by
  intro N
  induction N with
  | zero =>
    intro ks A hN h
    cases ks with
    | nil => exact .inl rfl
    | cons k ks => have := sizeE_pos k; have : sizeL (k :: ks) = sizeE k + sizeL ks := rfl; omega
  | succ N ih =>
    intro ks A hN h
    rcases h with h | ⟨b, o, e, hb, hr⟩
    · exact .inl h
    · refine .inr ⟨b, o, e, by omega, RdC.mk fun i hi => ?_⟩
      obtain ⟨⟨c0, c1, c2⟩, A', cap, c3, hr'⟩ := hr.get hi
      refine ⟨⟨(hc _ _ hb).trans c0, (hc _ _ hb).trans c1, (hc _ _ hb).trans c2⟩, A', cap, (hc _ _ hb).trans c3, ih _ _ ?_ hr'⟩
      have := sizeL_get hi
      rw [sizeE_kids] at this
      omega
theorem RdS.below {w w' : World} {B : Nat} {ks : List E} {A : Option Addr} (h : RdS w B ks A) (hb : Below B w w') : RdS w' B ks A :=
  rd_keep (fun b _ h => hb.cell (p := ⟨b, _, none⟩) h) (Nat.le_refl _) _ _ _ (Nat.le_refl _) h
theorem RdS.more {w : World} {B B' : Nat} {ks : List E} {A : Option Addr} (h : RdS w B ks A) (hB : B ≤ B') : RdS w B' ks A :=
  rd_keep (fun _ _ _ => rfl) hB _ _ _ (Nat.le_refl _) h
theorem RdS.on {w w' : World} {B : Nat} {ks : List E} {A : Option Addr} (h : RdS w B ks A) (hb : Below B w w') (hB : B ≤ w'.heap.size) : RdS w' w'.heap.size ks A := (h.below hb).more hB
theorem RdAt.below {w w' : World} {B : Nat} {e : E} {b o : Nat} (h : RdAt w B e b o) (hb : Below B w w') (h0 : b < B) : RdAt w' B e b o := by
  obtain ⟨⟨c0, c1, c2⟩, A', cap, c3, hr'⟩ := h
  exact ⟨⟨(hb.cell (p := ⟨b, _, none⟩) h0).trans c0, (hb.cell (p := ⟨b, _, none⟩) h0).trans c1, (hb.cell (p := ⟨b, _, none⟩) h0).trans c2⟩, A', cap, (hb.cell (p := ⟨b, _, none⟩) h0).trans c3, hr'.below hb⟩
mutual
/-- What an expression holds: bytes of names and lengths of lists. -/
def bulkE : E → Nat
  | .mk _ _ s ks => s.size + bulkL ks
def bulkL : List E → Nat
  | [] => 0
  | k :: ks => 1 + bulkE k + bulkL ks
end
theorem bulkE_kids (e : E) : bulkE e = e.name.size + bulkL e.kids := by cases e; rfl
theorem bulkL_mem : ∀ {ks : List E} {k : E}, k ∈ ks → bulkE k + 1 ≤ bulkL ks
  | x :: ks, k, h => by
    show bulkE k + 1 ≤ 1 + bulkE x + bulkL ks
    rcases List.mem_cons.1 h with rfl | h
    · omega
    · have := bulkL_mem h; omega
theorem bulkL_app : ∀ (a b : List E), bulkL (a ++ b) = bulkL a + bulkL b
  | [], b => by show bulkL b = 0 + bulkL b; omega
  | x :: a, b => by show 1 + bulkE x + bulkL (a ++ b) = 1 + bulkE x + bulkL a + bulkL b; rw [bulkL_app a b]; omega
theorem bulkL_take {ks : List E} {i : Nat} (h : i < ks.length) : bulkL (ks.take (i + 1)) = bulkL (ks.take i) + (1 + bulkE ks[i]) := by
  rw [List.take_succ_eq_append_getElem h, bulkL_app]; show _ + (1 + bulkE ks[i] + 0) = _; omega
mutual
theorem sizeE_bulk : ∀ (e : E), sizeE e ≤ 1 + bulkE e
  | .mk _ _ s ks => by have := sizeL_bulk ks; show 1 + sizeL ks ≤ 1 + (s.size + bulkL ks); omega
theorem sizeL_bulk : ∀ (ks : List E), sizeL ks ≤ bulkL ks
  | [] => Nat.le_refl _
  | k :: ks => by have := sizeE_bulk k; have := sizeL_bulk ks; show sizeE k + sizeL ks ≤ 1 + bulkE k + bulkL ks; omega
end
end Go.Proofs.YtljdbjfbcjigaaaGreatDoor

namespace Go.Proofs.YtljdbjfbcjigaaaGreatDoor
open Go.RowKit

/-- Cells from a place on that read as Kids; the blocks to which they lead are of a kind. -/
def PdC (w : World) (S : Nat → Prop) : List E → Nat → Nat → Prop
  | [], _, _ => True
  | .mk op n s ks' :: ks, b, o =>
    (w.cell? ⟨b, o, none⟩ = some (.int .i64 op) ∧ w.cell? ⟨b, o + 1, none⟩ = some (.int .i64 n) ∧ w.cell? ⟨b, o + 2, none⟩ = some (.string s)) ∧
    (∃ A cap, w.cell? ⟨b, o + 3, none⟩ = some (.slice A ks'.length cap) ∧ (ks' = [] ∨ ∃ b' o', A = some ⟨b', o', none⟩ ∧ S b' ∧ PdC w S ks' b' o')) ∧ PdC w S ks b (o + 4)
def PdS (w : World) (S : Nat → Prop) (ks : List E) (A : Option Addr) : Prop := ks = [] ∨ ∃ b o, A = some ⟨b, o, none⟩ ∧ S b ∧ PdC w S ks b o
def PdAt (w : World) (S : Nat → Prop) (e : E) (b o : Nat) : Prop :=
  (w.cell? ⟨b, o, none⟩ = some (.int .i64 e.op) ∧ w.cell? ⟨b, o + 1, none⟩ = some (.int .i64 e.n) ∧ w.cell? ⟨b, o + 2, none⟩ = some (.string e.name)) ∧
    ∃ A cap, w.cell? ⟨b, o + 3, none⟩ = some (.slice A e.kids.length cap) ∧ PdS w S e.kids A
theorem PdC_cons (w : World) (S : Nat → Prop) (e : E) (ks : List E) (b o : Nat) : PdC w S (e :: ks) b o ↔ PdAt w S e b o ∧ PdC w S ks b (o + 4) := by
  obtain ⟨op, n, s, ks'⟩ := e
  unfold PdAt PdS
  rw [PdC]
  simp only [E.op, E.n, E.name, E.kids, and_assoc]
theorem PdC.get {w : World} {S : Nat → Prop} : ∀ {ks : List E} {b o : Nat}, PdC w S ks b o → ∀ {i : Nat} (h : i < ks.length), PdAt w S ks[i] b (o + i * 4)
  | [], _, _, _, i, h => absurd h (by simp)
  | e :: ks, b, o, hr, 0, _ => by
    rw [PdC_cons] at hr
    have e1 : o + 0 * 4 = o := by omega
    rw [e1]; exact hr.1
  | e :: ks, b, o, hr, i + 1, h => by
    rw [PdC_cons] at hr
    have := PdC.get hr.2 (i := i) (by simpa using h)
    have e1 : o + 4 + i * 4 = o + (i + 1) * 4 := by omega
    rw [e1] at this
    exact this
theorem PdC.mk {w : World} {S : Nat → Prop} : ∀ {ks : List E} {b o : Nat}, (∀ i, (h : i < ks.length) → PdAt w S ks[i] b (o + i * 4)) → PdC w S ks b o
  | [], _, _, _ => by rw [PdC]; trivial
  | e :: ks, b, o, h => by
    rw [PdC_cons]
    refine ⟨?_, PdC.mk fun i hi => ?_⟩
    · have := h 0 (by simp)
      have e1 : o + 0 * 4 = o := by omega
      rw [e1] at this; exact this
    have := h (i + 1) (by simpa using hi)
    have e1 : o + (i + 1) * 4 = o + 4 + i * 4 := by omega
    rw [e1] at this
    exact this
theorem pd_keep {w w' : World} {S S' : Nat → Prop} (hc : ∀ b o, S b → w'.cell? ⟨b, o, none⟩ = w.cell? ⟨b, o, none⟩) (hB : ∀ b, S b → S' b) : ∀ (N : Nat) (ks : List E) (A : Option Addr), sizeL ks ≤ N → PdS w S ks A → PdS w' S' ks A := by
  intro N
  induction N with
  | zero =>
    intro ks A hN h
    cases ks with
    | nil => exact .inl rfl
    | cons k ks => have := sizeE_pos k; have : sizeL (k :: ks) = sizeE k + sizeL ks := rfl; omega
  | succ N ih =>
    intro ks A hN h
    rcases h with h | ⟨b, o, e, hb, hr⟩
    · exact .inl h
    · refine .inr ⟨b, o, e, hB _ hb, PdC.mk fun i hi => ?_⟩
      obtain ⟨⟨c0, c1, c2⟩, A', cap, c3, hr'⟩ := hr.get hi
      refine ⟨⟨(hc _ _ hb).trans c0, (hc _ _ hb).trans c1, (hc _ _ hb).trans c2⟩, A', cap, (hc _ _ hb).trans c3, ih _ _ ?_ hr'⟩
      have := sizeL_get hi
      rw [sizeE_kids] at this
      omega
theorem PdS.keep {w w' : World} {S S' : Nat → Prop} {ks : List E} {A : Option Addr} (h : PdS w S ks A) (hc : ∀ b o, S b → w'.cell? ⟨b, o, none⟩ = w.cell? ⟨b, o, none⟩) (hB : ∀ b, S b → S' b) : PdS w' S' ks A :=
  pd_keep hc hB _ _ _ (Nat.le_refl _) h
theorem pd_rd {w : World} {S : Nat → Prop} {B : Nat} (hB : ∀ b, S b → b < B) : ∀ (N : Nat) (ks : List E) (A : Option Addr), sizeL ks ≤ N → PdS w S ks A → RdS w B ks A := by
  intro N
  induction N with
  | zero =>
    intro ks A hN h
    cases ks with
    | nil => exact .inl rfl
    | cons k ks => have := sizeE_pos k; have : sizeL (k :: ks) = sizeE k + sizeL ks := rfl; omega
  | succ N ih =>
    intro ks A hN h
    rcases h with h | ⟨b, o, e, hb, hr⟩
    · exact .inl h
    · refine .inr ⟨b, o, e, hB _ hb, RdC.mk fun i hi => ?_⟩
      obtain ⟨c, A', cap, c3, hr'⟩ := hr.get hi
      refine ⟨c, A', cap, c3, ih _ _ ?_ hr'⟩
      have := sizeL_get hi
      rw [sizeE_kids] at this
      omega
theorem PdS.rd {w : World} {S : Nat → Prop} {B : Nat} {ks : List E} {A : Option Addr} (h : PdS w S ks A) (hB : ∀ b, S b → b < B) : RdS w B ks A := pd_rd hB _ _ _ (Nat.le_refl _) h

/-- A block of cells that no string shares. -/
def Flat (w : World) (b : Nat) : Prop := ∃ cs t, w.heap[b]? = some (.cells cs t (0, 0))
theorem Flat.below {w w' : World} {B b : Nat} (h : Flat w b) (hb : Below B w w') (hlt : b < B) : Flat w' b := by
  obtain ⟨cs, t, h⟩ := h
  exact ⟨cs, t, by rw [hb.block b hlt]; exact h⟩
theorem Flat.set {w : World} {b : Nat} (h : Flat w b) (p : Addr) (v : Value) : Flat (w.setCell p v) b := by
  obtain ⟨cs, t, h⟩ := h
  unfold Flat World.setCell
  dsimp only
  by_cases e : p.block = b
  · subst e
    rw [Array.getElem?_modify, if_pos rfl, h]
    exact ⟨_, _, rfl⟩
  · rw [Array.getElem?_modify, if_neg e]
    exact ⟨cs, t, h⟩
/-- The blocks that a call has made. -/
def Between (w : World) (lo hi : Nat) (b : Nat) : Prop := lo ≤ b ∧ b < hi ∧ Flat w b
theorem PdS.between_rd {w : World} {lo : Nat} {ks : List E} {A : Option Addr} (h : PdS w (Between w lo w.heap.size) ks A) : RdS w w.heap.size ks A := h.rd fun _ h => h.2.1
theorem PdS.later {w w' : World} {lo hi : Nat} {ks : List E} {A : Option Addr} (h : PdS w (Between w lo hi) ks A) (hb : Below hi w w') {lo' hi' : Nat} (h1 : lo' ≤ lo) (h2 : hi ≤ hi') : PdS w' (Between w' lo' hi') ks A :=
  h.keep (fun b _ h => hb.cell (p := ⟨b, _, none⟩) h.2.1) (fun _ h => ⟨Nat.le_trans h1 h.1, Nat.lt_of_lt_of_le h.2.1 h2, h.2.2.below hb h.2.1⟩)
/-- A block ahead of all others is written. -/
theorem PdS.set' {w : World} {lo hi : Nat} {ks : List E} {A : Option Addr} (h : PdS w (Between w lo hi) ks A) {g : Nat} (hg : g < lo) (o : Nat) (v : Value) : PdS (w.setCell ⟨g, o, none⟩ v) (Between (w.setCell ⟨g, o, none⟩ v) lo hi) ks A :=
  h.keep (fun b o' h => World.cell?_setCell_other _ _ _ _ (by intro e; injection e with e; have := h.1; omega)) (fun _ h => ⟨h.1, h.2.1, h.2.2.set _ _⟩)
theorem PdS.set {w : World} {g hi : Nat} {ks : List E} {A : Option Addr} (h : PdS w (Between w (g + 1) hi) ks A) (o : Nat) (v : Value) : PdS (w.setCell ⟨g, o, none⟩ v) (Between (w.setCell ⟨g, o, none⟩ v) (g + 1) hi) ks A :=
  h.set' (Nat.lt_succ_self g) o v
theorem PdS.wide {w : World} {lo hi lo' hi' : Nat} {ks : List E} {A : Option Addr} (h : PdS w (Between w lo hi) ks A) (h1 : lo' ≤ lo) (h2 : hi ≤ hi') : PdS w (Between w lo' hi') ks A :=
  h.keep (fun _ _ _ => rfl) (fun _ h => ⟨Nat.le_trans h1 h.1, Nat.lt_of_lt_of_le h.2.1 h2, h.2.2⟩)

mutual
/-- All names and lists are such as memory holds. -/
def SmE : E → Prop
  | .mk _ _ s ks => s.size ≤ maxLen ∧ ks.length ≤ maxLen ∧ SmL ks
def SmL : List E → Prop
  | [] => True
  | k :: ks => SmE k ∧ SmL ks
end
theorem SmL_mem : ∀ {ks : List E} {k : E}, SmL ks → k ∈ ks → SmE k
  | x :: ks, k, h, hk => by
    rw [SmL] at h
    rcases List.mem_cons.1 hk with rfl | hk
    · exact h.1
    · exact SmL_mem h.2 hk
theorem SmL_mk : ∀ {ks : List E}, (∀ k ∈ ks, SmE k) → SmL ks
  | [], _ => by rw [SmL]; trivial
  | x :: ks, h => by rw [SmL]; exact ⟨h x (by simp), SmL_mk fun k hk => h k (by simp [hk])⟩
theorem SmE_mk (e : E) : SmE e ↔ e.name.size ≤ maxLen ∧ e.kids.length ≤ maxLen ∧ SmL e.kids := by cases e; rw [SmE]; rfl
mutual
theorem SmE_of_bulk : ∀ (e : E), bulkE e ≤ 1048576 → SmE e
  | .mk _ _ s ks, h => by
    have h : s.size + bulkL ks ≤ 1048576 := h
    have := sizeL_bulk ks
    have := length_le_sizeL ks
    rw [SmE]; exact ⟨by unfold maxLen; omega, by unfold maxLen; omega, SmL_of_bulk ks (by omega)⟩
theorem SmL_of_bulk : ∀ (ks : List E), bulkL ks ≤ 1048576 → SmL ks
  | [], _ => by rw [SmL]; trivial
  | k :: ks, h => by
    have h : 1 + bulkE k + bulkL ks ≤ 1048576 := h
    rw [SmL]; exact ⟨SmE_of_bulk k (by omega), SmL_of_bulk ks (by omega)⟩
end
theorem bulkL_drop (ks : List E) (i : Nat) : ks.length - i ≤ bulkL (ks.drop i) := by
  have h1 := length_le_sizeL (ks.drop i)
  have h2 := sizeL_bulk (ks.drop i)
  rw [List.length_drop] at h1
  omega
theorem bulkL_rest (ks : List E) (i : Nat) : bulkL (ks.take i) + (ks.length - i) ≤ bulkL ks := by
  have h := bulkL_app (ks.take i) (ks.drop i)
  rw [List.take_append_drop] at h
  have := bulkL_drop ks i
  omega
/-- What szExpr returns. -/
def szR (left : Int) (b : Nat) : Int := if left < b then -1 else left - b
theorem szR_no {b : Nat} (h : 1048576 < b) : szR 1048576 b = -1 := if_pos (by omega)
theorem szR_yes {b : Nat} (h : ¬ 1048576 < b) : szR 1048576 b = 1048576 - b := if_neg (by omega)
end Go.Proofs.YtljdbjfbcjigaaaGreatDoor
