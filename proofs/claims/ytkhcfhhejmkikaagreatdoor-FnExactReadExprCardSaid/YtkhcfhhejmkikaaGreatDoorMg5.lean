/-
  The program's cursor over words: atEnd, takeText, take.
-/
import Derived.Test.YtkhcfhhejmkikaaGreatDoorMg4
import Derived.Below
import Derived.Laws.AppendOwn
import Derived.Laws.BytesArg
import Derived.Laws.BitsAllLaws
import Derived.Laws.BitsLemmas
import Derived.Deep.QuietTactic
import Derived.BigQuiet
namespace Go.Proofs.YtkhcfhhejmkikaaGreatDoor
open Go.RowKit

/-- The number that a word tells. -/
def nmB (s : ByteArray) : Int := numB s.data.toList
theorem nmB_dec (n : Int) (h0 : 0 ≤ n) (h1 : n ≤ 255) : nmB (decS n.toNat) = n := by
  unfold nmB decS numB
  obtain ⟨c, v⟩ := dec_canon_all n.toNat (by omega)
  rw [if_pos ⟨c, by rw [v]; omega⟩, v]
  omega
theorem valid_num (n : Int) (h0 : 0 ≤ n) (h1 : n ≤ 255) : validB 2 (decS n.toNat) = true := by
  have h := nmB_dec n h0 h1
  unfold nmB at h
  unfold validB
  rw [if_neg (by decide), if_pos rfl, h, decide_eq_true h0]
theorem valid_name {s : ByteArray} (h : nameB s = true) : validB 1 s = true := by unfold validB; rw [if_pos rfl, h]
theorem valid_byte {b : UInt8} (h : cls b.toNat = 3) : validB 3 ⟨#[b]⟩ = true := by
  unfold validB
  rw [if_neg (by decide), if_neg (by decide), if_pos rfl]
  unfold signB
  rw [dif_pos (show (⟨#[b]⟩ : ByteArray).size = 1 from rfl)]
  have e : (⟨#[b]⟩ : ByteArray)[0]'(Nat.zero_lt_one) = b := rfl
  rw [beq_iff_eq]
  exact h
theorem valid_sgn {op : Int} (h : 3 ≤ op ∧ op ≤ 12) : validB 3 (sgnS op) = true := valid_byte (sgn_cls h)
theorem valid_lp : validB 3 lpS = true := valid_byte (by decide)
theorem valid_rp : validB 3 rpS = true := valid_byte (by decide)
theorem valid_cm : validB 3 cmS = true := valid_byte (by decide)
/-- All words are valid. -/
def AllV (ws : List W) : Prop := ∀ x ∈ ws, validB x.1 x.2 = true
theorem AllV.cons {x : W} {ws : List W} (h : validB x.1 x.2 = true) (hs : AllV ws) : AllV (x :: ws) := by
  intro y hy
  rcases List.mem_cons.1 hy with rfl | hy
  · exact h
  · exact hs y hy
theorem AllV.app {a b : List W} (ha : AllV a) (hb : AllV b) : AllV (a ++ b) := by
  intro y hy
  rcases List.mem_append.1 hy with hy | hy
  · exact ha y hy
  · exact hb y hy
theorem AllV.nil : AllV [] := fun _ h => by cases h
theorem allV_commas : ∀ {l : List (List W)}, (∀ p ∈ l, AllV p) → AllV (commas l)
  | [], _ => AllV.nil
  | [p], h => h p (by simp)
  | p :: q :: r, h => (h p (by simp)).app (AllV.cons valid_cm (allV_commas (fun x hx => h x (List.mem_cons_of_mem _ hx))))
theorem AllV.need {b : Bool} {l : List W} (h : AllV l) : AllV (needW b l) := by
  unfold needW
  split
  · exact AllV.cons valid_lp (h.app (AllV.cons valid_rp AllV.nil))
  · exact h
theorem wE_valid : ∀ (d : Nat) (e : E), formE d e = true → ∀ l, AllV (wE e l)
  | 0, e, h => by cases h
  | d + 1, e, h => by
    intro l
    rw [wE_eq]
    refine AllV.need ?_
    rcases form_cases h with ⟨n, rfl, h0, h1⟩ | ⟨s, rfl, hs⟩ | ⟨s, ks, rfl, hs, _, hk⟩ | ⟨op, x, rfl, ho, hx⟩ | ⟨op, x, y, rfl, ho, hx, hy⟩
    · exact AllV.cons (valid_num n h0 h1) AllV.nil
    · exact AllV.cons (valid_name hs) AllV.nil
    · show AllV (bodyW 13 0 s (wL 13 0 ks))
      rw [body_call]
      refine AllV.cons (valid_name hs) (AllV.cons valid_lp (AllV.app (allV_commas fun p hp => ?_) (AllV.cons valid_rp AllV.nil)))
      obtain ⟨j, hj, rfl⟩ := List.getElem_of_mem hp
      have hj' : j < ks.length := by rw [wL_length] at hj; exact hj
      rw [wL_get 13 0 ks j hj' hj]
      exact wE_valid d _ (hk _ (List.getElem_mem hj')) _
    · show AllV (bodyW op 0 ⟨#[]⟩ [wE x (needOf op 0)])
      rw [body_un ho]
      exact AllV.cons (valid_sgn (by omega)) (wE_valid d x hx _)
    · show AllV (bodyW op 0 ⟨#[]⟩ [wE x (needOf op 0), wE y (needOf op 1)])
      rw [body_bin ho]
      exact (wE_valid d x hx _).app (AllV.cons (valid_sgn (by omega)) (wE_valid d y hy _))
theorem needW_len (b : Bool) (l : List W) : (needW b l).length ≤ l.length + 2 := needW_length' b l
theorem commas_bd : ∀ (ks : List E) (i : Nat), (∀ k ∈ ks, ∀ l, (wE k l).length + 1 ≤ 6 * sizeE k) → (commas (wL 13 i ks)).length ≤ 6 * sizeL ks
  | [], _, _ => Nat.zero_le _
  | [x], i, h => by
    have := h x (by simp) (needOf 13 i)
    show (wE x (needOf 13 i)).length ≤ 6 * (sizeE x + 0)
    omega
  | x :: y :: ks, i, h => by
    have h1 := h x (by simp) (needOf 13 i)
    have h2 := commas_bd (y :: ks) (i + 1) (fun k hk => h k (by simp at hk ⊢; right; exact hk))
    show (wE x (needOf 13 i) ++ (3, cmS) :: commas (wL 13 (i + 1) (y :: ks))).length ≤ 6 * (sizeE x + sizeL (y :: ks))
    rw [List.length_append, List.length_cons]
    omega
theorem wE_bd : ∀ (d : Nat) (e : E), formE d e = true → ∀ l, (wE e l).length + 1 ≤ 6 * sizeE e
  | 0, e, h => by cases h
  | d + 1, e, h => by
    intro l
    rw [wE_eq]
    have h2 := needW_len (decide (lvl e.op < l)) (bodyW e.op e.n e.name (wL e.op 0 e.kids))
    rcases form_cases h with ⟨n, rfl, h0, h1⟩ | ⟨s, rfl, hs⟩ | ⟨s, ks, rfl, hs, _, hk⟩ | ⟨op, x, rfl, ho, hx⟩ | ⟨op, x, y, rfl, ho, hx, hy⟩
    · have e1 : (bodyW (numE n).op (numE n).n (numE n).name (wL (numE n).op 0 (numE n).kids)).length = 1 := rfl
      have := sizeE_pos (numE n)
      omega
    · have e1 : (bodyW (varE s).op (varE s).n (varE s).name (wL (varE s).op 0 (varE s).kids)).length = 1 := rfl
      have := sizeE_pos (varE s)
      omega
    · have hb := commas_bd ks 0 (fun k hk' l => wE_bd d k (hk k hk') l)
      have e1 : (bodyW (callE s ks).op (callE s ks).n (callE s ks).name (wL (callE s ks).op 0 (callE s ks).kids)).length = (commas (wL 13 0 ks)).length + 3 := by
        show ((1, s) :: (3, lpS) :: (commas (wL 13 0 ks) ++ [(3, rpS)]) : List W).length = _
        simp
      rw [sizeE_call]
      omega
    · have hb := wE_bd d x hx (needOf op 0)
      have e1 : (bodyW (unE op x).op (unE op x).n (unE op x).name (wL (unE op x).op 0 (unE op x).kids)).length = (wE x (needOf op 0)).length + 1 := by
        show (bodyW op 0 ⟨#[]⟩ [wE x (needOf op 0)]).length = _
        rw [body_un ho, List.length_cons]
      rw [sizeE_un]
      omega
    · have hb := wE_bd d x hx (needOf op 0)
      have hb' := wE_bd d y hy (needOf op 1)
      have e1 : (bodyW (binE op x y).op (binE op x y).n (binE op x y).name (wL (binE op x y).op 0 (binE op x y).kids)).length = (wE x (needOf op 0)).length + ((wE y (needOf op 1)).length + 1) := by
        show (bodyW op 0 ⟨#[]⟩ [wE x (needOf op 0), wE y (needOf op 1)]).length = _
        rw [body_bin ho, List.length_append, List.length_cons]
      rw [sizeE_bin]
      omega

theorem joinTail_app (sep : List UInt8) (a b : List (List UInt8)) : Lib.joinTail sep (a ++ b) = Lib.joinTail sep a ++ Lib.joinTail sep b := by simp [Lib.joinTail]
/-- Words one behind the other, joined. -/
theorem joinB_app {a b : List W} (ha : a ≠ []) (hb : b ≠ []) : joinB (a ++ b) = joinB a ++ 32 :: joinB b := by
  cases a with
  | nil => exact absurd rfl ha
  | cons x a =>
    cases b with
    | nil => exact absurd rfl hb
    | cons y b =>
      unfold joinB
      rw [List.cons_append, List.map_cons, List.map_cons, List.map_cons, Lib.join_cons, Lib.join_cons, Lib.join_cons, List.map_append, joinTail_app, List.map_cons]
      have : Lib.joinTail [32] (y.2.data.toList :: b.map (·.2.data.toList)) = 32 :: (y.2.data.toList ++ Lib.joinTail [32] (b.map (·.2.data.toList))) := by simp [Lib.joinTail]
      rw [this]
      simp
theorem joinB_single (x : W) : joinB [x] = x.2.data.toList := by unfold joinB; simp [Lib.join_one]
theorem joinB_cons (x : W) {a : List W} (h : a ≠ []) : joinB (x :: a) = x.2.data.toList ++ 32 :: joinB a := by
  have := joinB_app (a := [x]) (b := a) (by simp) h
  rw [joinB_single] at this
  simpa using this
theorem joinB_snoc {a : List W} (h : a ≠ []) (x : W) : joinB (a ++ [x]) = joinB a ++ 32 :: x.2.data.toList := by
  rw [joinB_app h (by simp), joinB_single]
/-- The text of a valid expression. -/
def textE (e : E) : ByteArray := ⟨(joinB (wE e 1)).toArray⟩
/-- What ExprText returns. -/
noncomputable def textF (e : E) : ByteArray × Bool := if validE e = true then (textE e, true) else (⟨#[]⟩, false)
theorem allV_to {ws : List W} (h : AllV ws) : validTo ws ws.length := fun _ hj _ => h _ (List.getElem_mem hj)
theorem text_words {e : E} (h : validE e = true) : AllV (wE e 1) ∧ (wE e 1).length ≤ 180 ∧ (joinB (wE e 1)).length ≤ 900 := by
  have hv := wE_valid 6 e (validE_form h) 1
  have hb := wE_bd 6 e (validE_form h) 1
  have hs := validE_size h
  have hj := joinB_len (wE e 1).length (Nat.le_refl _) (allV_to hv)
  rw [List.take_length] at hj
  exact ⟨hv, by omega, by omega⟩
theorem text_join {e : E} (h : validE e = true) : joinF (wE e 1) = (textE e, true) := by
  obtain ⟨h1, h2, h3⟩ := text_words h
  exact joinF_yes (by omega) (allV_to h1)
theorem textE_size {e : E} (h : validE e = true) : (textE e).size ≤ 900 := by
  obtain ⟨h1, h2, h3⟩ := text_words h
  show (joinB (wE e 1)).toArray.size ≤ 900
  simpa using h3
/-- Words joined, as a text. -/
def tx (l : List W) : ByteArray := ⟨(joinB l).toArray⟩
theorem ba_ext {a b : ByteArray} (h : a.data.toList = b.data.toList) : a = b := by
  cases a; cases b
  simp only [Array.toList_inj] at h
  rw [h]
theorem tx_list (l : List W) : (tx l).data.toList = joinB l := by unfold tx; simp
theorem tx_app {a b : List W} (ha : a ≠ []) (hb : b ≠ []) : tx (a ++ b) = tx a ++ ⟨#[32]⟩ ++ tx b := by
  apply ba_ext
  rw [tx_list, joinB_app ha hb]
  simp [tx_list]
theorem tx_one (k : Int) (s : ByteArray) : tx [(k, s)] = s := by
  apply ba_ext
  rw [tx_list, joinB_single]
theorem tx_br {l : List W} (h : l ≠ []) : tx ((3, lpS) :: (l ++ [(3, rpS)])) = (⟨#[40, 32]⟩ ++ tx l) ++ ⟨#[32, 41]⟩ := by
  apply ba_ext
  rw [tx_list, joinB_cons _ (by simp), joinB_snoc h]
  simp [tx_list, lpS, rpS]
theorem tx_un (op : Int) {l : List W} (h : l ≠ []) : tx ((3, sgnS op) :: l) = (sgnS op ++ ⟨#[32]⟩) ++ tx l := by
  apply ba_ext
  rw [tx_list, joinB_cons _ h]
  simp [tx_list]
theorem tx_bin (op : Int) {a b : List W} (ha : a ≠ []) (hb : b ≠ []) : tx (a ++ (3, sgnS op) :: b) = (((tx a ++ ⟨#[32]⟩) ++ sgnS op) ++ ⟨#[32]⟩) ++ tx b := by
  apply ba_ext
  rw [tx_list, joinB_app ha (by simp), joinB_cons _ hb]
  simp [tx_list]
theorem tx_call0 (s : ByteArray) : tx [(1, s), (3, lpS)] = s ++ ⟨#[32, 40]⟩ := by
  apply ba_ext
  rw [tx_list, joinB_cons _ (by simp), joinB_single]
  simp [lpS]
theorem tx_first {l b : List W} (hl : l ≠ []) (hb : b ≠ []) : tx (l ++ b) = (tx l ++ ⟨#[32]⟩) ++ tx b := tx_app hl hb
theorem tx_next {l b : List W} (hl : l ≠ []) (hb : b ≠ []) : tx (l ++ (3, cmS) :: b) = ((tx l ++ ⟨#[32, 44]⟩) ++ ⟨#[32]⟩) ++ tx b := by
  apply ba_ext
  rw [tx_list, joinB_app hl (by simp), joinB_cons _ hb]
  simp [tx_list, cmS]
theorem tx_end {l : List W} (hl : l ≠ []) : tx (l ++ [(3, rpS)]) = tx l ++ ⟨#[32, 41]⟩ := by
  apply ba_ext
  rw [tx_list, joinB_snoc hl]
  simp [tx_list, rpS]
/-- Texts are short. -/
theorem tx_size {l : List W} (h : AllV l) : (tx l).size ≤ 5 * l.length := by
  have := joinB_len l.length (Nat.le_refl _) (allV_to h)
  rw [List.take_length] at this
  show (joinB l).toArray.size ≤ _
  simpa using this
end Go.Proofs.YtkhcfhhejmkikaaGreatDoor

namespace Go.Proofs.YtkhcfhhejmkikaaGreatDoor
open Go.RowKit

/-- What reading words comes to. -/
noncomputable def readW (ws : List W) : E × Bool := match rdL nmB 6100 1 ws with
  | some (e, []) => if validE e = true then (e, true) else (E.none, false)
  | _ => (E.none, false)
/-- What ReadExpr returns. -/
noncomputable def readF (s : ByteArray) : E × Bool := if (cutRes s).2 = true then readW (cutRes s).1 else (E.none, false)
theorem text_cut {e : E} (h : validE e = true) : cutRes (textE e) = (wE e 1, true) := by
  obtain ⟨h1, h2, h3⟩ := text_words h
  have hc : cutF (textE e) 0 = some (wE e 1) := by
    rw [cut_list]
    show cutL (joinB (wE e 1)).toArray.toList = _
    have := cutL_join h1 (wE e 1).length (Nat.le_refl _)
    rw [List.take_length] at this
    simpa using this
  have hs := textE_size h
  exact cutRes_yes (by omega) hc (by omega)
theorem readW_back {e : E} (h : validE e = true) : readW (wE e 1) = (e, true) := by
  obtain ⟨h1, h2, h3⟩ := text_words h
  obtain ⟨m', hm', he⟩ := (back nmB nmB_dec 6 e (validE_form h)).1 1 6100 [] (by omega) (by omega) (Stop.nil 1) (by simp; omega)
  rw [List.append_nil, rdO_stop (by omega) (opAt_none fun _ _ _ _ => rfl)] at he
  unfold readW
  rw [he]
  dsimp only
  rw [if_pos h]
/-- An expression is read back from its text. -/
theorem read_text {e : E} (h : validE e = true) : readF (textE e) = (e, true) := by
  unfold readF
  rw [text_cut h]
  dsimp only
  rw [if_pos rfl]
  exact readW_back h
theorem text_inj {a b : E} (ha : validE a = true) (hb : validE b = true) (h : textE a = textE b) : a = b := by
  have h1 := read_text ha
  rw [h, read_text hb] at h1
  injection h1 with h1 _
  exact h1.symm
theorem readW_yes {ws : List W} {e : E} (h : readW ws = (e, true)) : rdL nmB 6100 1 ws = some (e, []) ∧ validE e = true := by
  unfold readW at h
  split at h
  · rename_i x hr
    split at h
    · rename_i hv
      injection h with h _
      subst h
      exact ⟨hr, hv⟩
    · injection h with _ h; cases h
  · injection h with _ h; cases h
theorem readW_none {ws : List W} {e : E} (h : readW ws = (e, false)) : e = E.none := by
  unfold readW at h
  split at h
  · split at h
    · injection h with _ h; cases h
    · injection h with h _; exact h.symm
  · injection h with h _; exact h.symm
theorem readF_yes {s : ByteArray} {e : E} (h : readF s = (e, true)) : validE e = true ∧ ∃ ws, cutRes s = (ws, true) ∧ rdL nmB 6100 1 ws = some (e, []) ∧ (wE e 1).length ≤ ws.length := by
  unfold readF at h
  split at h
  · rename_i hc
    obtain ⟨h1, h2⟩ := readW_yes h
    refine ⟨h2, (cutRes s).1, ?_, h1, ?_⟩
    · rw [← hc]
    · have := ((rd_less nmB 6100).L 1 _ _ _ (by omega) h1).2.2.2
      simpa using this
  · injection h with _ h; cases h
theorem readF_none {s : ByteArray} {e : E} (h : readF s = (e, false)) : e = E.none := by
  unfold readF at h
  split at h
  · exact readW_none h
  · injection h with h _; exact h.symm
end Go.Proofs.YtkhcfhhejmkikaaGreatDoor

namespace Go.Proofs.YtkhcfhhejmkikaaGreatDoor
open Go.RowKit

/-- Cells from a place on that read as Kids; all that they lead to lies below block B. -/
def RdC (w : World) (B : Nat) : List E → Nat → Nat → Prop
  | [], _, _ => True
  | .mk op n s ks' :: ks, b, o =>
    (w.cell? ⟨b, o, none⟩ = some (.int .i64 op) ∧ w.cell? ⟨b, o + 1, none⟩ = some (.int .i64 n) ∧ w.cell? ⟨b, o + 2, none⟩ = some (.string s)) ∧
    (∃ A cap, w.cell? ⟨b, o + 3, none⟩ = some (.slice A ks'.length cap) ∧ (ks' = [] ∨ ∃ b' o', A = some ⟨b', o', none⟩ ∧ b' < B ∧ RdC w B ks' b' o')) ∧ RdC w B ks b (o + 4)
/-- A slice of Kids that reads as a list. -/
def RdS (w : World) (B : Nat) (ks : List E) (A : Option Addr) : Prop := ks = [] ∨ ∃ b o, A = some ⟨b, o, none⟩ ∧ b < B ∧ RdC w B ks b o
/-- An expression as a value. -/
def exV (e : E) (A : Option Addr) (cap : Nat) : Value := .agg #[.int .i64 e.op, .int .i64 e.n, .string e.name, .slice A e.kids.length cap]
/-- A place that reads as an expression. -/
def RdAt (w : World) (B : Nat) (e : E) (b o : Nat) : Prop :=
  (w.cell? ⟨b, o, none⟩ = some (.int .i64 e.op) ∧ w.cell? ⟨b, o + 1, none⟩ = some (.int .i64 e.n) ∧ w.cell? ⟨b, o + 2, none⟩ = some (.string e.name)) ∧
    ∃ A cap, w.cell? ⟨b, o + 3, none⟩ = some (.slice A e.kids.length cap) ∧ RdS w B e.kids A
theorem RdC_cons (w : World) (B : Nat) (e : E) (ks : List E) (b o : Nat) : RdC w B (e :: ks) b o ↔ RdAt w B e b o ∧ RdC w B ks b (o + 4) := by
  obtain ⟨op, n, s, ks'⟩ := e
  unfold RdAt RdS
  rw [RdC]
  simp only [E.op, E.n, E.name, E.kids, and_assoc]
theorem RdC.get {w : World} {B : Nat} : ∀ {ks : List E} {b o : Nat}, RdC w B ks b o → ∀ {i : Nat} (h : i < ks.length), RdAt w B ks[i] b (o + i * 4)
  | [], _, _, _, i, h => absurd h (by simp)
  | e :: ks, b, o, hr, 0, _ => by
    rw [RdC_cons] at hr
    have e1 : o + 0 * 4 = o := by omega
    rw [e1]; exact hr.1
  | e :: ks, b, o, hr, i + 1, h => by
    rw [RdC_cons] at hr
    have := RdC.get hr.2 (i := i) (by simpa using h)
    have e1 : o + 4 + i * 4 = o + (i + 1) * 4 := by omega
    rw [e1] at this
    exact this
theorem RdC.mk {w : World} {B : Nat} : ∀ {ks : List E} {b o : Nat}, (∀ i, (h : i < ks.length) → RdAt w B ks[i] b (o + i * 4)) → RdC w B ks b o
  | [], _, _, _ => by rw [RdC]; trivial
  | e :: ks, b, o, h => by
    rw [RdC_cons]
    refine ⟨?_, RdC.mk fun i hi => ?_⟩
    · have := h 0 (by simp)
      have e1 : o + 0 * 4 = o := by omega
      rw [e1] at this; exact this
    have := h (i + 1) (by simpa using hi)
    have e1 : o + (i + 1) * 4 = o + 4 + i * 4 := by omega
    rw [e1] at this
    exact this
theorem RdS.at_ {w : World} {B : Nat} {ks : List E} {A : Option Addr} (h : RdS w B ks A) {i : Nat} (hi : i < ks.length) : ∃ b o, A = some ⟨b, o, none⟩ ∧ b < B ∧ RdAt w B ks[i] b (o + i * 4) := by
  rcases h with rfl | ⟨b, o, e, hb, hr⟩
  · exact absurd hi (by simp)
  · exact ⟨b, o, e, hb, hr.get hi⟩
theorem RdS.nil {w : World} {B : Nat} {A : Option Addr} : RdS w B [] A := .inl rfl
/-- What is told of Kids, told of their lists. -/
theorem rd_keep {w w' : World} {B : Nat} (hc : ∀ b o, b < B → w'.cell? ⟨b, o, none⟩ = w.cell? ⟨b, o, none⟩) {B' : Nat} (hB : B ≤ B') : ∀ (N : Nat) (ks : List E) (A : Option Addr), sizeL ks ≤ N → RdS w B ks A → RdS w' B' ks A := by
  intro N
  induction N with
  | zero =>
    intro ks A hN h
    cases ks with
    | nil => exact .inl rfl
    | cons k ks => have := sizeE_pos k; have : sizeL (k :: ks) = sizeE k + sizeL ks := rfl; omega
  | succ N ih =>
    intro ks A hN h
    rcases h with h | ⟨b, o, e, hb, hr⟩
    · exact .inl h
    · refine .inr ⟨b, o, e, by omega, RdC.mk fun i hi => ?_⟩
      obtain ⟨⟨c0, c1, c2⟩, A', cap, c3, hr'⟩ := hr.get hi
      refine ⟨⟨(hc _ _ hb).trans c0, (hc _ _ hb).trans c1, (hc _ _ hb).trans c2⟩, A', cap, (hc _ _ hb).trans c3, ih _ _ ?_ hr'⟩
      have := sizeL_get hi
      rw [sizeE_kids] at this
      omega
theorem RdS.below {w w' : World} {B : Nat} {ks : List E} {A : Option Addr} (h : RdS w B ks A) (hb : Below B w w') : RdS w' B ks A :=
  rd_keep (fun b _ h => hb.cell (p := ⟨b, _, none⟩) h) (Nat.le_refl _) _ _ _ (Nat.le_refl _) h
theorem RdS.more {w : World} {B B' : Nat} {ks : List E} {A : Option Addr} (h : RdS w B ks A) (hB : B ≤ B') : RdS w B' ks A :=
  rd_keep (fun _ _ _ => rfl) hB _ _ _ (Nat.le_refl _) h
theorem RdS.on {w w' : World} {B : Nat} {ks : List E} {A : Option Addr} (h : RdS w B ks A) (hb : Below B w w') (hB : B ≤ w'.heap.size) : RdS w' w'.heap.size ks A := (h.below hb).more hB
theorem RdAt.below {w w' : World} {B : Nat} {e : E} {b o : Nat} (h : RdAt w B e b o) (hb : Below B w w') (h0 : b < B) : RdAt w' B e b o := by
  obtain ⟨⟨c0, c1, c2⟩, A', cap, c3, hr'⟩ := h
  exact ⟨⟨(hb.cell (p := ⟨b, _, none⟩) h0).trans c0, (hb.cell (p := ⟨b, _, none⟩) h0).trans c1, (hb.cell (p := ⟨b, _, none⟩) h0).trans c2⟩, A', cap, (hb.cell (p := ⟨b, _, none⟩) h0).trans c3, hr'.below hb⟩
mutual
/-- What an expression holds: bytes of names and lengths of lists. -/
def bulkE : E → Nat
  | .mk _ _ s ks => s.size + bulkL ks
def bulkL : List E → Nat
  | [] => 0
  | k :: ks => 1 + bulkE k + bulkL ks
end
theorem bulkE_kids (e : E) : bulkE e = e.name.size + bulkL e.kids := by cases e; rfl
theorem bulkL_mem : ∀ {ks : List E} {k : E}, k ∈ ks → bulkE k + 1 ≤ bulkL ks
  | x :: ks, k, h => by
    show bulkE k + 1 ≤ 1 + bulkE x + bulkL ks
    rcases List.mem_cons.1 h with rfl | h
    · omega
    · have := bulkL_mem h; omega
theorem bulkL_app : ∀ (a b : List E), bulkL (a ++ b) = bulkL a + bulkL b
  | [], b => by show bulkL b = 0 + bulkL b; omega
  | x :: a, b => by show 1 + bulkE x + bulkL (a ++ b) = 1 + bulkE x + bulkL a + bulkL b; rw [bulkL_app a b]; omega
theorem bulkL_take {ks : List E} {i : Nat} (h : i < ks.length) : bulkL (ks.take (i + 1)) = bulkL (ks.take i) + (1 + bulkE ks[i]) := by
  rw [List.take_succ_eq_append_getElem h, bulkL_app]; show _ + (1 + bulkE ks[i] + 0) = _; omega
mutual
theorem sizeE_bulk : ∀ (e : E), sizeE e ≤ 1 + bulkE e
  | .mk _ _ s ks => by have := sizeL_bulk ks; show 1 + sizeL ks ≤ 1 + (s.size + bulkL ks); omega
theorem sizeL_bulk : ∀ (ks : List E), sizeL ks ≤ bulkL ks
  | [] => Nat.le_refl _
  | k :: ks => by have := sizeE_bulk k; have := sizeL_bulk ks; show sizeE k + sizeL ks ≤ 1 + bulkE k + bulkL ks; omega
end
end Go.Proofs.YtkhcfhhejmkikaaGreatDoor

namespace Go.Proofs.YtkhcfhhejmkikaaGreatDoor

theorem isT_drop (ws : List W) (k : Nat) (t : ByteArray) : isT (ws.drop k) t = if h : k < ws.length then decide (ws[k].2 = t) else false := by
  by_cases h : k < ws.length
  · rw [dif_pos h, List.drop_eq_getElem_cons h]; rfl
  · rw [dif_neg h, List.drop_eq_nil_of_le (by omega)]; rfl
theorem isT_lt {ws : List W} {k : Nat} {t : ByteArray} (h : isT (ws.drop k) t = true) : ∃ h : k < ws.length, ws[k].2 = t := by
  rw [isT_drop] at h
  split at h
  · rename_i hk; exact ⟨hk, of_decide_eq_true h⟩
  · cases h
theorem tail_drop (ws : List W) (k : Nat) : (ws.drop k).tail = ws.drop (k + 1) := by rw [List.tail_drop]
theorem suf_drop {r ws : List W} (h : r <:+ ws) : r = ws.drop (ws.length - r.length) := by
  obtain ⟨t, rfl⟩ := h
  rw [List.length_append, show t.length + r.length - r.length = t.length by omega, List.drop_left]
/-- What is left behind a place is what is left from a later place on. -/
theorem suf_place {r ws : List W} {k : Nat} (h : r <:+ ws.drop k) (hl : r.length < (ws.drop k).length) : ∃ k', k < k' ∧ k' ≤ ws.length ∧ r = ws.drop k' ∧ ws.length - r.length = k' := by
  have h2 := suf_drop (h.trans (List.drop_suffix _ _))
  rw [List.length_drop] at hl
  exact ⟨ws.length - r.length, by omega, by omega, h2, rfl⟩
def hitO (l : Nat) (ws : List W) (op : Int) : Bool := decide (lvl op = l) && isT ws (sgnS op)
theorem opAt_first {l : Nat} {ws : List W} {k : Int} (h3 : 3 ≤ k) (h10 : k ≤ 10) (hno : ∀ j : Int, 3 ≤ j → j < k → hitO l ws j = false) (hp : hitO l ws k = true) : opAt l ws = some k := by
  show List.find? (hitO l ws) [3, 4, 5, 6, 7, 8, 9, 10] = some k
  have hk : k = 3 ∨ k = 4 ∨ k = 5 ∨ k = 6 ∨ k = 7 ∨ k = 8 ∨ k = 9 ∨ k = 10 := by omega
  rcases hk with rfl | rfl | rfl | rfl | rfl | rfl | rfl | rfl
  · simp [hp]
  · simp [hp, hno 3 (by omega) (by omega)]
  · simp [hp, hno 3 (by omega) (by omega), hno 4 (by omega) (by omega)]
  · simp [hp, hno 3 (by omega) (by omega), hno 4 (by omega) (by omega), hno 5 (by omega) (by omega)]
  · simp [hp, hno 3 (by omega) (by omega), hno 4 (by omega) (by omega), hno 5 (by omega) (by omega), hno 6 (by omega) (by omega)]
  · simp [hp, hno 3 (by omega) (by omega), hno 4 (by omega) (by omega), hno 5 (by omega) (by omega), hno 6 (by omega) (by omega), hno 7 (by omega) (by omega)]
  · simp [hp, hno 3 (by omega) (by omega), hno 4 (by omega) (by omega), hno 5 (by omega) (by omega), hno 6 (by omega) (by omega), hno 7 (by omega) (by omega), hno 8 (by omega) (by omega)]
  · simp [hp, hno 3 (by omega) (by omega), hno 4 (by omega) (by omega), hno 5 (by omega) (by omega), hno 6 (by omega) (by omega), hno 7 (by omega) (by omega), hno 8 (by omega) (by omega), hno 9 (by omega) (by omega)]
theorem opAt_no {l : Nat} {ws : List W} (hno : ∀ j : Int, 3 ≤ j → j < 11 → hitO l ws j = false) : opAt l ws = none := by
  show List.find? (hitO l ws) [3, 4, 5, 6, 7, 8, 9, 10] = none
  simp [hno 3 (by omega) (by omega), hno 4 (by omega) (by omega), hno 5 (by omega) (by omega), hno 6 (by omega) (by omega), hno 7 (by omega) (by omega), hno 8 (by omega) (by omega), hno 9 (by omega) (by omega), hno 10 (by omega) (by omega)]
theorem hit_step {l : Nat} {ws : List W} {k : Int} (hno : ∀ j : Int, 3 ≤ j → j < k → hitO l ws j = false) (h : hitO l ws k = false) : ∀ j : Int, 3 ≤ j → j < k + 1 → hitO l ws j = false := by
  intro j h1 h2
  by_cases e : j = k
  · subst e; exact h
  · exact hno j h1 (by omega)
/-- The op of a level that stands next, or 0. -/
def opN (l : Nat) (ws : List W) : Int := (opAt l ws).getD 0
theorem aheadAt_eq (ws : List W) : aheadAt ws = if isT ws (sgnS 11) = true then some 11 else if isT ws (sgnS 12) = true then some 12 else none := by
  show List.find? (fun op => isT ws (sgnS op)) [11, 12] = _
  cases h1 : isT ws (sgnS 11)
  · cases h2 : isT ws (sgnS 12) <;> simp [List.find?, h1, h2]
  · simp [List.find?, h1]

/-- The index behind what was read, or -1. -/
def nextI {α : Type} (n : Nat) : Option (α × List W) → Int
  | none => -1
  | some p => ((n - p.2.length : Nat) : Int)
theorem nextI_bd {α : Type} (n : Nat) (r : Option (α × List W)) : -1 ≤ nextI n r ∧ nextI n r ≤ n := by
  cases r with
  | none => show -1 ≤ (-1 : Int) ∧ (-1 : Int) ≤ n; omega
  | some p => show -1 ≤ ((n - p.2.length : Nat) : Int) ∧ ((n - p.2.length : Nat) : Int) ≤ n; omega
theorem nextI_at {α : Type} {ws : List W} (x : α) {k : Nat} (hk : k ≤ ws.length) : nextI ws.length (some (x, ws.drop k)) = (k : Int) := by
  show ((ws.length - (ws.drop k).length : Nat) : Int) = _
  rw [List.length_drop]; omega

/-- What a read expression holds at most. -/
structure RdBulk (nm : ByteArray → Int) (m : Nat) : Prop where
  L : ∀ l ws e r, (∀ x ∈ ws, x.2.size ≤ 4) → rdL nm m l ws = some (e, r) → r <:+ ws ∧ bulkE e + 1 + 6 * r.length ≤ 6 * ws.length
  O : ∀ l x ws e r, (∀ x ∈ ws, x.2.size ≤ 4) → rdO nm m l x ws = some (e, r) → r <:+ ws ∧ bulkE e + 6 * r.length ≤ bulkE x + 6 * ws.length
  T : ∀ ws e r, (∀ x ∈ ws, x.2.size ≤ 4) → rdT nm m ws = some (e, r) → r <:+ ws ∧ bulkE e + 1 + 6 * r.length ≤ 6 * ws.length
  W : ∀ ws e r, (∀ x ∈ ws, x.2.size ≤ 4) → rdW nm m ws = some (e, r) → r <:+ ws ∧ bulkE e + 1 + 6 * r.length ≤ 6 * ws.length
  C : ∀ ws ks r, (∀ x ∈ ws, x.2.size ≤ 4) → rdC nm m ws = some (ks, r) → r <:+ ws ∧ bulkL ks + 6 * r.length ≤ 6 * ws.length
  K : ∀ acc ws ks r, (∀ x ∈ ws, x.2.size ≤ 4) → rdK nm m acc ws = some (ks, r) → r <:+ ws ∧ bulkL ks + 6 * r.length ≤ bulkL acc + 6 * ws.length
theorem suf_le {r ws : List W} (h : r <:+ ws) (hs : ∀ x ∈ ws, x.2.size ≤ 4) : ∀ x ∈ r, x.2.size ≤ 4 := fun x hx => hs x (h.subset hx)
theorem bulkE_bin (op : Int) (x y : E) : bulkE (binE op x y) = bulkE x + bulkE y + 2 := by show 0 + (1 + bulkE x + (1 + bulkE y + 0)) = _; omega
theorem bulkE_un (op : Int) (x : E) : bulkE (unE op x) = bulkE x + 1 := by show 0 + (1 + bulkE x + 0) = _; omega
theorem bulkE_call (s : ByteArray) (ks : List E) : bulkE (callE s ks) = s.size + bulkL ks := rfl
theorem rd_bulk (nm : ByteArray → Int) : ∀ m, RdBulk nm m
  | 0 => ⟨fun _ _ _ _ _ h => (by cases h), fun _ _ _ _ _ _ h => (by cases h), fun _ _ _ _ h => (by cases h), fun _ _ _ _ h => (by cases h), fun _ _ _ _ h => (by cases h), fun _ _ _ _ _ h => (by cases h)⟩
  | m + 1 => by
    have ih := rd_bulk nm m
    refine ⟨?_, ?_, ?_, ?_, ?_, ?_⟩
    · intro l ws e r hs h
      have h' : (if 4 < l then rdT nm m ws else (rdL nm m (l + 1) ws).bind fun p => rdO nm m l p.1 p.2) = some (e, r) := h
      split at h'
      · exact ih.T _ _ _ hs h'
      · rw [Option.bind_eq_some_iff] at h'
        obtain ⟨⟨x, r1⟩, h1, h2⟩ := h'
        have a := ih.L _ _ _ _ hs h1
        have b := ih.O _ _ _ _ _ (suf_le a.1 hs) h2
        dsimp only at b
        exact ⟨b.1.trans a.1, by omega⟩
    · intro l x ws e r hs h
      have h' : (match opAt l ws with
        | none => some (x, ws)
        | some op => (rdL nm m (l + 1) ws.tail).bind fun p => rdO nm m l (binE op x p.1) p.2) = some (e, r) := h
      split at h'
      · injection h' with h'; injection h' with h1 h2; subst h1; subst h2
        exact ⟨List.suffix_refl _, by omega⟩
      · rename_i op hop
        obtain ⟨o1, o2, o3, o4⟩ := opAt_some hop
        obtain ⟨w, ws', rfl, ow⟩ := isT_cons o4
        have hs' : ∀ x ∈ ws', x.2.size ≤ 4 := fun x hx => hs x (by simp [hx])
        rw [Option.bind_eq_some_iff] at h'
        obtain ⟨⟨y, r1⟩, h1, h2⟩ := h'
        rw [List.tail_cons] at h1
        have a := ih.L _ _ _ _ hs' h1
        have b := ih.O _ _ _ _ _ (suf_le a.1 hs') h2
        dsimp only at b
        rw [bulkE_bin] at b
        rw [List.length_cons]
        exact ⟨(b.1.trans a.1).trans (List.suffix_cons _ _), by omega⟩
    · intro ws e r hs h
      have h' : (match aheadAt ws with
        | some op => (rdT nm m ws.tail).bind fun p => some (unE op p.1, p.2)
        | none => rdW nm m ws) = some (e, r) := h
      split at h'
      · rename_i op hop
        obtain ⟨o1, o4⟩ := aheadAt_some hop
        obtain ⟨w, ws', rfl, ow⟩ := isT_cons o4
        have hs' : ∀ x ∈ ws', x.2.size ≤ 4 := fun x hx => hs x (by simp [hx])
        rw [Option.bind_eq_some_iff] at h'
        obtain ⟨⟨x, r1⟩, h1, h2⟩ := h'
        injection h2 with h2; injection h2 with h2 h3; subst h2; subst h3
        rw [List.tail_cons] at h1
        have a := ih.T _ _ _ hs' h1
        dsimp only at a ⊢
        rw [bulkE_un, List.length_cons]
        exact ⟨a.1.trans (List.suffix_cons _ _), by omega⟩
      · exact ih.W _ _ _ hs h'
    · intro ws e r hs h
      cases ws with
      | nil => cases h
      | cons w ws =>
        have hs' : ∀ x ∈ ws, x.2.size ≤ 4 := fun x hx => hs x (by simp [hx])
        have hw := hs w (by simp)
        have h' : (if w.2 = lpS then (rdL nm m 1 ws).bind fun p => if isT p.2 rpS = true then some (p.1, p.2.tail) else none
          else if w.1 = 2 then some (numE (nm w.2), ws)
          else if w.1 = 1 then (if isT ws lpS = true then (rdC nm m ws.tail).bind fun p => some (callE w.2 p.1, p.2) else some (varE w.2, ws))
          else none) = some (e, r) := h
        split at h'
        · rw [Option.bind_eq_some_iff] at h'
          obtain ⟨⟨x, r1⟩, h1, h2⟩ := h'
          have a := ih.L _ _ _ _ hs' h1
          dsimp only at h2 a
          split at h2
          · rename_i ht
            obtain ⟨w2, r2, rfl, _⟩ := isT_cons ht
            injection h2 with h2; injection h2 with h2 h3; subst h2; subst h3
            rw [List.length_cons] at a
            rw [List.tail_cons, List.length_cons]
            exact ⟨((List.suffix_cons _ _).trans a.1).trans (List.suffix_cons _ _), by omega⟩
          · cases h2
        · split at h'
          · injection h' with h'; injection h' with h1 h2; subst h1; subst h2
            refine ⟨List.suffix_cons _ _, ?_⟩
            rw [List.length_cons]; show 0 + 0 + 1 + _ ≤ _; omega
          · split at h'
            · split at h'
              · rename_i ht
                obtain ⟨w2, r2, rfl, _⟩ := isT_cons ht
                rw [Option.bind_eq_some_iff] at h'
                obtain ⟨⟨ks, r1⟩, h1, h2⟩ := h'
                injection h2 with h2; injection h2 with h2 h3; subst h2; subst h3
                rw [List.tail_cons] at h1
                have a := ih.C _ _ _ (fun x hx => hs' x (by simp [hx])) h1
                dsimp only at a ⊢
                rw [bulkE_call, List.length_cons, List.length_cons]
                exact ⟨(a.1.trans (List.suffix_cons _ _)).trans (List.suffix_cons _ _), by omega⟩
              · injection h' with h'; injection h' with h1 h2; subst h1; subst h2
                refine ⟨List.suffix_cons _ _, ?_⟩
                rw [List.length_cons]; show w.2.size + 0 + 1 + _ ≤ _; omega
            · cases h'
    · intro ws ks r hs h
      have h' : (if isT ws rpS = true then some ([], ws.tail) else rdK nm m [] ws) = some (ks, r) := h
      split at h'
      · rename_i ht
        obtain ⟨w2, r2, rfl, _⟩ := isT_cons ht
        injection h' with h'; injection h' with h1 h2; subst h1; subst h2
        rw [List.tail_cons, List.length_cons]
        exact ⟨List.suffix_cons _ _, by show 0 + _ ≤ _; omega⟩
      · have a := ih.K _ _ _ _ hs h'
        have e1 : bulkL [] = 0 := rfl
        exact ⟨a.1, by omega⟩
    · intro acc ws ks r hs h
      have h' : ((rdL nm m 1 ws).bind fun p =>
        if isT p.2 rpS = true then some (acc ++ [p.1], p.2.tail)
        else if isT p.2 cmS = true then rdK nm m (acc ++ [p.1]) p.2.tail else none) = some (ks, r) := h
      rw [Option.bind_eq_some_iff] at h'
      obtain ⟨⟨x, r1⟩, h1, h2⟩ := h'
      have a := ih.L _ _ _ _ hs h1
      have hx : bulkL (acc ++ [x]) = bulkL acc + (1 + bulkE x + 0) := by rw [bulkL_app]; rfl
      dsimp only at h2 a
      split at h2
      · rename_i ht
        obtain ⟨w2, r2, rfl, _⟩ := isT_cons ht
        injection h2 with h2; injection h2 with h2 h3; subst h2; subst h3
        rw [List.length_cons] at a
        rw [List.tail_cons, hx]
        exact ⟨(List.suffix_cons _ _).trans a.1, by omega⟩
      · split at h2
        · rename_i ht
          obtain ⟨w2, r2, rfl, _⟩ := isT_cons ht
          rw [List.tail_cons] at h2
          have hs2 := suf_le a.1 hs
          have b := ih.K _ _ _ _ (fun x hx => hs2 x (by simp [hx])) h2
          rw [List.length_cons] at a
          rw [hx] at b
          exact ⟨(b.1.trans (List.suffix_cons _ _)).trans a.1, by omega⟩
        · cases h2
end Go.Proofs.YtkhcfhhejmkikaaGreatDoor

namespace Go.Proofs.YtkhcfhhejmkikaaGreatDoor
open Go.RowKit

theorem beq_no {a b : Int} (h : a ≠ b) : (a == b) = false := by rw [beq_eq_false_iff_ne]; exact h
theorem beq_yes {a b : Int} (h : a = b) : (a == b) = true := by rw [beq_iff_eq]; exact h
/-- A flag, and new blocks at most. -/
def BoolB (b : Bool) (w : World) (e : Ending) (w' : World) : Prop := e = .returned (.bool b) ∧ Below w.heap.size w w'
theorem two_boxes (w : World) (a b : Obj) : Below w.heap.size w ((w.alloc a).alloc b) := ((Below.refl _ _).alloc (Nat.le_refl _) _).alloc (by simp) _

/-- Four cells of a block. -/
def Bx4 (w : World) (k : Nat) (v0 v1 v2 v3 : Value) : Prop := w.cell? ⟨k, 0, none⟩ = some v0 ∧ w.cell? ⟨k, 1, none⟩ = some v1 ∧ w.cell? ⟨k, 2, none⟩ = some v2 ∧ w.cell? ⟨k, 3, none⟩ = some v3
theorem Bx4.below {w w' : World} {B k : Nat} {v0 v1 v2 v3 : Value} (h : Bx4 w k v0 v1 v2 v3) (hb : Below B w w') (hk : k < B) : Bx4 w' k v0 v1 v2 v3 :=
  ⟨(hb.cell (p := ⟨k, _, none⟩) hk).trans h.1, (hb.cell (p := ⟨k, _, none⟩) hk).trans h.2.1, (hb.cell (p := ⟨k, _, none⟩) hk).trans h.2.2.1, (hb.cell (p := ⟨k, _, none⟩) hk).trans h.2.2.2⟩
theorem Bx4.new (w : World) (v0 v1 v2 v3 : Value) (t : TypeId) : Bx4 (w.alloc (.cells #[v0, v1, v2, v3] t)) w.heap.size v0 v1 v2 v3 := ⟨alloc_cell w _ _ _ 0, alloc_cell w _ _ _ 1, alloc_cell w _ _ _ 2, alloc_cell w _ _ _ 3⟩
/-- One block turns, and new blocks are there. -/
structure Touch (g : Nat) (w w' : World) : Prop where
  below : Below g w w'
  above : ∀ k, g < k → k < w.heap.size → w'.heap[k]? = w.heap[k]?
theorem Touch.trans {g : Nat} {a b c : World} (h : Touch g a b) (k : Touch g b c) : Touch g a c :=
  ⟨h.below.trans k.below, fun i h1 h2 => (k.above i h1 (Nat.lt_of_lt_of_le h2 h.below.size)).trans (h.above i h1 h2)⟩
theorem Touch.of_below {g : Nat} {a b : World} (h : Below a.heap.size a b) (hg : g < a.heap.size) : Touch g a b := ⟨h.mono (Nat.le_of_lt hg), fun i _ h2 => h.block i h2⟩
theorem Touch.cell {g : Nat} {a b : World} (h : Touch g a b) {k o : Nat} (h1 : g < k) (h2 : k < a.heap.size) : b.cell? ⟨k, o, none⟩ = a.cell? ⟨k, o, none⟩ := by
  have := h.above k h1 h2
  unfold World.cell?
  dsimp only
  rw [this]
theorem Touch.refl (g : Nat) (w : World) : Touch g w w := ⟨Below.refl _ _, fun _ _ _ => rfl⟩
end Go.Proofs.YtkhcfhhejmkikaaGreatDoor

namespace Go.Proofs.YtkhcfhhejmkikaaGreatDoor
open Go.RowKit
set_option maxRecDepth 100000

/-- Bytes that can be read, below block B. -/
def Bytes (w : World) (B : Nat) (A : Option Addr) (l : List UInt8) : Prop :=
  l ≠ [] → ∃ b o, A = some ⟨b, o, none⟩ ∧ b < B ∧ ∀ k, (h : k < l.length) → w.cell? ⟨b, o + k, none⟩ = some (.int .u8 l[k].toNat)
theorem Bytes.at_ {w : World} {B : Nat} {A : Option Addr} {l : List UInt8} (h : Bytes w B A l) {k : Nat} (hk : k < l.length) :
    ∃ b o, A = some ⟨b, o, none⟩ ∧ b < B ∧ ∀ j, (h : j < l.length) → w.cell? ⟨b, o + j, none⟩ = some (.int .u8 l[j].toNat) := h (by intro e; subst e; simp at hk)
theorem Bytes.below {w w' : World} {B : Nat} {A : Option Addr} {l : List UInt8} (h : Bytes w B A l) (hb : Below B w w') : Bytes w' B A l := by
  intro hne
  obtain ⟨b, o, e, hB, hc⟩ := h hne
  exact ⟨b, o, e, hB, fun k hk => (hb.cell (p := ⟨b, _, none⟩) hB).trans (hc k hk)⟩
/-- A reader at block R behind p picks. -/
structure Rd (w : World) (R : Nat) (p : Nat) : Prop where
  ex : ∃ A l cap, l.length ≤ 2000 ∧ w.heap[R]? = some (.cells #[.slice A l.length cap, .int .i64 (p : Int)] 88 (0, 0)) ∧ Bytes w R A l
theorem Rd.lt {w : World} {R p : Nat} (h : Rd w R p) : R < w.heap.size := by
  obtain ⟨A, l, cap, _, h1, _⟩ := h.ex
  exact (Array.getElem?_eq_some_iff.1 h1).1
theorem Rd.keep {w w' : World} {R p : Nat} (h : Rd w R p) (hb : Below w.heap.size w w') : Rd w' R p := by
  have hlt := h.lt
  obtain ⟨A, l, cap, h0, h1, h2⟩ := h.ex
  exact ⟨A, l, cap, h0, by rw [hb.block R hlt]; exact h1, h2.below (hb.mono (by omega))⟩
/-- The world behind a pick: the reader has gone on, and nothing else has turned. -/
def pickW (w : World) (R p q : Nat) : World := (w.setCell ⟨R, 1, none⟩ (.int .i64 ((p + 1 : Nat) : Int))).drewN q
theorem Rd.pick {w : World} {R p : Nat} (h : Rd w R p) (q : Nat) : Rd (pickW w R p q) R (p + 1) := by
  obtain ⟨A, l, cap, h0, h1, h2⟩ := h.ex
  refine ⟨A, l, cap, h0, ?_, ?_⟩
  · show (w.setCell ⟨R, 1, none⟩ _).heap[R]? = _
    rw [heap_setCell_same w R 1 _ _ _ h1]
    rfl
  · have hb : Below R w (pickW w R p q) := below_drewN ((Below.refl R w).setCell (Nat.le_refl _) _) q
    exact h2.below hb
def PickRet (R p n : Nat) (w : World) (e : Ending) (w' : World) : Prop := ∃ r : Nat, r < n ∧ e = .returned (.int .i64 (r : Int)) ∧ ∃ q, w' = pickW w R p q

theorem i64_xor_nat (a b : Nat) (ha : a < 4611686018427387904) (hb : b < 4611686018427387904) : bits .xor .i64 (a : Int) (b : Int) = ((a ^^^ b : Nat) : Int) := by
  have hx : a ^^^ b < 2 ^ 62 := Nat.xor_lt_two_pow (by omega) (by omega)
  show IntKind.i64.wrap ((BitVec.ofInt 64 (a : Int) ^^^ BitVec.ofInt 64 (b : Int)).toNat : Int) = _
  rw [BitVec.toNat_xor, ofInt_u64 a (by omega), ofInt_u64 b (by omega), IntKind.wrap_i64]
  omega

set_option maxHeartbeats 2000000 in
theorem pick_any (R p n : Nat) (w : World) (h : Rd w R p) (hp : p ≤ 1000000) (hn1 : 1 ≤ n) (hn2 : n ≤ 1000) :
    Calls Tryz.prog 46 #[.pointer (some ⟨R, 0, none⟩), .int .i64 (n : Int)] w (PickRet R p n w) := by
  obtain ⟨A, l, cap, hl, hR, hB⟩ := h.ex
  have c0 : w.cell? ⟨R, 0, none⟩ = some (.slice A l.length cap) := by unfold World.cell?; rw [hR]; rfl
  have c1 : w.cell? ⟨R, 1, none⟩ = some (.int .i64 (p : Int)) := by unfold World.cell?; rw [hR]; rfl
  have f1 : w.frozen? ⟨R, 1, none⟩ = false := frozen_of_row w R 1 _ _ hR
  have HR := Lib.hid hR
  clear hR h
  have hq0 : (w.setCell ⟨R, 1, none⟩ (.int .i64 ((p : Int) + 1))) = pickW w R p 0 := rfl
  by_cases hz : l.length = 0
  · have e1 : ((l.length : Int) == 0) = true := by rw [beq_iff_eq]; omega
    have HQ := Lib.hid hq0
    clear hz hq0 hB
    go_enter Tryz.func46, Tryz.ntmps46
    go_wp2
    go_ret
    exact ⟨0, by omega, rfl, 0, HQ.out⟩
  have e1 : ((l.length : Int) == 0) = false := by rw [beq_eq_false_iff_ne]; omega
  have hlpos : 0 < l.length := by omega
  clear hz
  by_cases hpl : p < l.length
  · obtain ⟨b, o, rfl, hbR, hc⟩ := hB.at_ hpl
    have hcp := hc p hpl
    have hv := (l[p]).toNat_lt
    generalize (l[p]).toNat = z at *
    have HQ := Lib.hid hq0
    clear hq0 hB hc
    go_enter Tryz.func46, Tryz.ntmps46
    go_wp2
    go_ways
    go_ret
    refine ⟨z % n, Nat.mod_lt _ (by omega), rfl, 0, HQ.out⟩
  · obtain ⟨b, o, rfl, hbR, hc⟩ := hB.at_ hlpos
    have hq1 : p % l.length < l.length := Nat.mod_lt _ hlpos
    have hq2 : (p * 7 + 3) % l.length < l.length := Nat.mod_lt _ hlpos
    have hc1 := hc _ hq1
    have hc2 := hc _ hq2
    have hv1 := (l[p % l.length]).toNat_lt
    have hv2 := (l[(p * 7 + 3) % l.length]).toNat_lt
    generalize (l[p % l.length]).toNat = z1 at *
    generalize (l[(p * 7 + 3) % l.length]).toNat = z2 at *
    have t1 : (p : Int).tmod (l.length : Int) = ((p % l.length : Nat) : Int) := by rw [Int.tmod_eq_emod_of_nonneg (by omega)]; rfl
    have t2 : ((p : Int) * 7 + 3).tmod (l.length : Int) = (((p * 7 + 3) % l.length : Nat) : Int) := by rw [Int.tmod_eq_emod_of_nonneg (by omega)]; rfl
    have t3 : (p : Int).tdiv (l.length : Int) = ((p / l.length : Nat) : Int) := by rw [Int.tdiv_eq_ediv_of_nonneg (by omega)]; rfl
    have hq3 : p / l.length ≤ p := Nat.div_le_self _ _
    generalize p % l.length = q1 at *
    generalize (p * 7 + 3) % l.length = q2 at *
    generalize p / l.length = q3 at *
    have hne : ¬ ((l.length : Int) = 0) := by omega
    have HQ := Lib.hid hq0
    have hpl' : l.length ≤ p := by omega
    clear hq0 hB hc hpl
    go_enter Tryz.func46, Tryz.ntmps46
    go_wp2
    go_quiet (fail)
    go_wp2
    have hx : ∃ X : Nat, bits BinOp.xor IntKind.i64 ((z1 : Int) * 131 + z2 * 1117 + p * 29 + q3 * 53) (((z1 : Int) * 131 + z2 * 1117 + p * 29 + q3 * 53) / 64) = (X : Int) :=
      ⟨_, i64_xor_nat (z1 * 131 + z2 * 1117 + p * 29 + q3 * 53) ((z1 * 131 + z2 * 1117 + p * 29 + q3 * 53) / 64) (by omega) (by omega)⟩
    obtain ⟨X, hX⟩ := hx
    have hX' : ((X : Int)).tmod (n : Int) = ((X % n : Nat) : Int) := by rw [Int.tmod_eq_emod_of_nonneg (by omega)]; rfl
    rw [hX, hX']
    go_ret
    exact ⟨X % n, Nat.mod_lt _ (by omega), rfl, nq, rfl⟩
end Go.Proofs.YtkhcfhhejmkikaaGreatDoor

namespace Go.Proofs.YtkhcfhhejmkikaaGreatDoor
open Go.RowKit
set_option maxRecDepth 100000

/-- What a drawer leaves: a reader that has gone on by so much, and nothing else below it turned. -/
def Drew (R p : Nat) (w w' : World) : Prop := (∃ p', p' ≤ p ∧ Rd w' R p') ∧ Below R w w'
theorem below_pickW {R p q : Nat} (w : World) : Below R w (pickW w R p q) := below_drewN ((Below.refl R w).setCell (Nat.le_refl _) _) q
theorem pickW_cell {R p q : Nat} (w : World) {a : Addr} (h : a.block ≠ R) : (pickW w R p q).cell? a = w.cell? a := by
  apply World.cell?_of_block
  exact Below.heap_setCell w ⟨R, 1, none⟩ _ a.block h

set_option maxHeartbeats 1000000 in
theorem of_any (R p : Nat) (b o cap : Nat) (ss : List ByteArray) (w : World) (h : Rd w R p) (hp : p ≤ 1000000) (hn1 : 1 ≤ ss.length) (hn2 : ss.length ≤ 1000)
    (hbR : b ≠ R) (hc : ∀ k, (h : k < ss.length) → w.cell? ⟨b, o + k, none⟩ = some (.string ss[k])) :
    Calls Tryz.prog 50 #[.pointer (some ⟨R, 0, none⟩), .slice (some ⟨b, o, none⟩) ss.length cap] w fun e w' => ∃ s, s ∈ ss ∧ e = .returned (.string s) ∧ ∃ q, w' = pickW w R p q := by
  have PK := Lib.hid (pick_any R p ss.length w h hp hn1 hn2)
  have HC := Lib.hid hc
  clear hc h
  go_enter Tryz.func50, Tryz.ntmps50
  go_wp2_with fail
  refine PK.out.mono ?_
  rintro e w1 ⟨r, hr, rfl, q, hw1⟩
  have hc1 : w1.cell? ⟨b, o + r, none⟩ = some (.string ss[r]) := by rw [hw1]; exact (pickW_cell w hbR).trans (HC.out r hr)
  have hm : ss[r] ∈ ss := List.getElem_mem hr
  generalize ss[r] = s at *
  replace hw1 := Lib.hid hw1
  go_wp2
  go_ret
  exact ⟨s, hm, rfl, q, hw1.out⟩

set_option maxHeartbeats 1000000 in
theorem num_any (R p : Nat) (b o cap : Nat) (ss : List Int) (w : World) (h : Rd w R p) (hp : p ≤ 1000000) (hn1 : 1 ≤ ss.length) (hn2 : ss.length ≤ 1000)
    (hbR : b ≠ R) (hc : ∀ k, (h : k < ss.length) → w.cell? ⟨b, o + k, none⟩ = some (.int .i64 ss[k])) :
    Calls Tryz.prog 49 #[.pointer (some ⟨R, 0, none⟩), .slice (some ⟨b, o, none⟩) ss.length cap] w fun e w' => ∃ s, s ∈ ss ∧ e = .returned (.int .i64 s) ∧ ∃ q, w' = pickW w R p q := by
  have PK := Lib.hid (pick_any R p ss.length w h hp hn1 hn2)
  have HC := Lib.hid hc
  clear hc h
  go_enter Tryz.func49, Tryz.ntmps49
  go_wp2_with fail
  refine PK.out.mono ?_
  rintro e w1 ⟨r, hr, rfl, q, hw1⟩
  have hc1 : w1.cell? ⟨b, o + r, none⟩ = some (.int .i64 ss[r]) := by rw [hw1]; exact (pickW_cell w hbR).trans (HC.out r hr)
  have hm : ss[r] ∈ ss := List.getElem_mem hr
  generalize ss[r] = s at *
  replace hw1 := Lib.hid hw1
  go_wp2
  go_ret
  exact ⟨s, hm, rfl, q, hw1.out⟩

theorem lit_cell (w : World) (vs : List Value) (t : TypeId) (fr : Nat × Nat) (k : Nat) (v : Value) (h : vs[k]? = some v) : (w.alloc (.cells vs.toArray t fr)).cell? ⟨w.heap.size, 0 + k, none⟩ = some v := by
  have e : (w.alloc (.cells vs.toArray t fr)).heap[w.heap.size]? = some (.cells vs.toArray t fr) := by
    show (w.heap.push _)[w.heap.size]? = _
    simp
  unfold World.cell?
  rw [e]
  show vs.toArray[0 + k]? = some v
  simpa using h

/-- of, upon a list that is written out. -/
theorem of_lit (R p : Nat) (ss : List ByteArray) (w : World) (t : TypeId) (fr : Nat × Nat) (h : Rd w R p) (hp : p ≤ 1000000) (hn1 : 1 ≤ ss.length) (hn2 : ss.length ≤ 1000) :
    Calls Tryz.prog 50 #[.pointer (some ⟨R, 0, none⟩), .slice (some ⟨w.heap.size, 0, none⟩) ss.length ss.length] (w.alloc (.cells (ss.map Value.string).toArray t fr)) fun e w' => ∃ s, s ∈ ss ∧ e = .returned (.string s) ∧ Drew R (p + 1) w w' := by
  have hlt := h.lt
  have hb : Below w.heap.size w (w.alloc (.cells (ss.map Value.string).toArray t fr)) := (Below.refl _ _).alloc (Nat.le_refl _) _
  refine (of_any R p w.heap.size 0 ss.length ss _ (h.keep hb) hp hn1 hn2 (by omega) ?_).mono ?_
  · intro k hk
    exact lit_cell w _ t fr k _ (by simp [hk])
  · rintro e w' ⟨s, hs, rfl, q, rfl⟩
    exact ⟨s, hs, rfl, ⟨p + 1, Nat.le_refl _, (h.keep hb).pick q⟩, (hb.mono (Nat.le_of_lt hlt)).trans (below_pickW _)⟩
theorem num_lit (R p : Nat) (ss : List Int) (w : World) (t : TypeId) (fr : Nat × Nat) (h : Rd w R p) (hp : p ≤ 1000000) (hn1 : 1 ≤ ss.length) (hn2 : ss.length ≤ 1000) :
    Calls Tryz.prog 49 #[.pointer (some ⟨R, 0, none⟩), .slice (some ⟨w.heap.size, 0, none⟩) ss.length ss.length] (w.alloc (.cells (ss.map (Value.int .i64)).toArray t fr)) fun e w' => ∃ s, s ∈ ss ∧ e = .returned (.int .i64 s) ∧ Drew R (p + 1) w w' := by
  have hlt := h.lt
  have hb : Below w.heap.size w (w.alloc (.cells (ss.map (Value.int .i64)).toArray t fr)) := (Below.refl _ _).alloc (Nat.le_refl _) _
  refine (num_any R p w.heap.size 0 ss.length ss _ (h.keep hb) hp hn1 hn2 (by omega) ?_).mono ?_
  · intro k hk
    exact lit_cell w _ t fr k _ (by simp [hk])
  · rintro e w' ⟨s, hs, rfl, q, rfl⟩
    exact ⟨s, hs, rfl, ⟨p + 1, Nat.le_refl _, (h.keep hb).pick q⟩, (hb.mono (Nat.le_of_lt hlt)).trans (below_pickW _)⟩
theorem Drew.trans {R p p' : Nat} {a b c : World} (h : Drew R p a b) (k : Drew R p' b c) : Drew R p' a c := ⟨k.1, h.2.trans k.2⟩
theorem pick_drew (R p n : Nat) (w : World) (h : Rd w R p) (hp : p ≤ 1000000) (hn1 : 1 ≤ n) (hn2 : n ≤ 1000) :
    Calls Tryz.prog 46 #[.pointer (some ⟨R, 0, none⟩), .int .i64 (n : Int)] w fun e w' => ∃ r : Nat, r < n ∧ e = .returned (.int .i64 (r : Int)) ∧ Drew R (p + 1) w w' := by
  refine (pick_any R p n w h hp hn1 hn2).mono ?_
  rintro e w' ⟨r, hr, rfl, q, rfl⟩
  exact ⟨r, hr, rfl, ⟨p + 1, Nat.le_refl _, h.pick q⟩, below_pickW _⟩

set_option maxHeartbeats 1000000 in
theorem l30Open_any (A : Option Addr) (l : List UInt8) (cap : Nat) (w : World) (h : Bytes w w.heap.size A l) (hn : l.length ≤ cap) (hcap : cap ≤ 9223372036854775807) :
    Calls Tryz.prog 35 #[.slice A l.length cap] w fun e w' => e = .returned (.pointer (some ⟨w.heap.size, 0, none⟩)) ∧ Rd w' w.heap.size 0 ∧ Below w.heap.size w w' := by
  have key : ∀ (l' : List UInt8) (cap' : Nat), l'.length ≤ 2000 → Bytes w w.heap.size A l' → Rd (w.alloc (.cells #[.slice A l'.length cap', .int .i64 0] 88 (0, 0))) w.heap.size 0 := by
    intro l' cap' h1 h2
    refine ⟨A, l', cap', h1, ?_, h2.below ((Below.refl _ _).alloc (Nat.le_refl _) _)⟩
    show (w.heap.push _)[w.heap.size]? = _
    simp
  by_cases hl : l.length ≤ 2000
  · have K := Lib.hid (key l cap hl h)
    clear key h
    go_enter Tryz.func35, Tryz.ntmps35
    go_wp2
    go_ways
    go_ret
    exact ⟨rfl, K.out, (Below.refl _ _).alloc (Nat.le_refl _) _⟩
  · have h2 : Bytes w w.heap.size A (l.take 2000) := by
      intro _
      obtain ⟨b, o, e, hb, hc⟩ := h.at_ (k := 0) (by omega)
      refine ⟨b, o, e, hb, fun k hk => ?_⟩
      rw [List.length_take] at hk
      rw [hc k (by omega)]
      simp
    obtain ⟨b, o, rfl, hb, hc⟩ := h.at_ (k := 0) (by omega)
    have ht : (l.take 2000).length = 2000 := by rw [List.length_take]; omega
    have K := Lib.hid (key (l.take 2000) cap (by omega) h2)
    rw [ht] at K
    clear key h h2 hc ht
    go_enter Tryz.func35, Tryz.ntmps35
    go_wp2
    go_ways
    go_ret
    exact ⟨rfl, K.out, (Below.refl _ _).alloc (Nat.le_refl _) _⟩
end Go.Proofs.YtkhcfhhejmkikaaGreatDoor

namespace Go.Proofs.YtkhcfhhejmkikaaGreatDoor
open Go.RowKit
set_option maxRecDepth 100000

/-- A reader that has gone on by so much; nothing else that was there has turned. -/
def DrewT (R p : Nat) (w w' : World) : Prop := (∃ p', p' ≤ p ∧ Rd w' R p') ∧ Touch R w w'
theorem DrewT.trans {R p p' : Nat} {a b c : World} (h : DrewT R p a b) (k : DrewT R p' b c) : DrewT R p' a c := ⟨k.1, h.2.trans k.2⟩
theorem DrewT.more {R p p' : Nat} {a b : World} (h : DrewT R p a b) (hp : p ≤ p') : DrewT R p' a b := by
  obtain ⟨⟨q, hq, hr⟩, ht⟩ := h
  exact ⟨⟨q, Nat.le_trans hq hp, hr⟩, ht⟩
theorem Touch.frozen {g : Nat} {a b : World} (h : Touch g a b) {k o : Nat} (h1 : g < k) (h2 : k < a.heap.size) : b.frozen? ⟨k, o, none⟩ = a.frozen? ⟨k, o, none⟩ := World.frozen?_of_block (h.above k h1 h2)
theorem touch_pickW (w : World) (R p q : Nat) : Touch R w (pickW w R p q) := by
  refine ⟨below_pickW w, fun k h1 h2 => ?_⟩
  show (w.heap.modify R _)[k]? = _
  rw [Array.getElem?_modify, if_neg (by omega)]
theorem Rd.set {w : World} {R p : Nat} (h : Rd w R p) {b : Nat} (hb : R < b) (o : Nat) (v : Value) : Rd (w.setCell ⟨b, o, none⟩ v) R p := by
  obtain ⟨A, l, cap, h0, h1, h2⟩ := h.ex
  refine ⟨A, l, cap, h0, ?_, h2.below ((Below.refl R w).setCell (p := ⟨b, o, none⟩) (Nat.le_of_lt hb) v)⟩
  show (w.heap.modify b _)[R]? = _
  rw [Array.getElem?_modify, if_neg (by omega)]
  exact h1
theorem DrewT.set {R p : Nat} {w w1 : World} (h : DrewT R p w w1) {b : Nat} (hb : w.heap.size ≤ b) (hR : R < w.heap.size) (o : Nat) (v : Value) : DrewT R p w (w1.setCell ⟨b, o, none⟩ v) := by
  obtain ⟨⟨q, hq, hr⟩, ht⟩ := h
  refine ⟨⟨q, hq, hr.set (by omega) o v⟩, ht.below.setCell (p := ⟨b, o, none⟩) (by show R ≤ b; omega) v, fun k h1 h2 => ?_⟩
  show (w1.heap.modify b _)[k]? = _
  rw [Array.getElem?_modify, if_neg (by omega)]
  exact ht.above k h1 h2
theorem DrewT.below {R p : Nat} {w w' : World} (h : Rd w R p) (hb : Below w.heap.size w w') : DrewT R p w w' := ⟨⟨p, Nat.le_refl _, h.keep hb⟩, Touch.of_below hb h.lt⟩
theorem pick_t (R p n : Nat) (w : World) (h : Rd w R p) (hp : p ≤ 1000000) (hn1 : 1 ≤ n) (hn2 : n ≤ 1000) :
    Calls Tryz.prog 46 #[.pointer (some ⟨R, 0, none⟩), .int .i64 (n : Int)] w fun e w' => ∃ r : Nat, r < n ∧ e = .returned (.int .i64 (r : Int)) ∧ DrewT R (p + 1) w w' :=
  (pick_any R p n w h hp hn1 hn2).mono fun e w' ⟨r, hr, he, q, hw⟩ => ⟨r, hr, he, by rw [hw]; exact ⟨⟨p + 1, Nat.le_refl _, h.pick q⟩, touch_pickW _ _ _ _⟩⟩
/-- A list of names at a block behind the reader. -/
def NmS (w : World) (R b o : Nat) (ss : List ByteArray) : Prop := R < b ∧ b < w.heap.size ∧ ∀ k, (h : k < ss.length) → w.cell? ⟨b, o + k, none⟩ = some (.string ss[k])
theorem NmS.touch {w w' : World} {R b o : Nat} {ss : List ByteArray} (h : NmS w R b o ss) (ht : Touch R w w') : NmS w' R b o ss :=
  ⟨h.1, Nat.lt_of_lt_of_le h.2.1 ht.below.size, fun k hk => (ht.cell h.1 h.2.1).trans (h.2.2 k hk)⟩
theorem NmS.lit {w : World} {R : Nat} (ss : List ByteArray) (t : TypeId) (fr : Nat × Nat) (hR : R < w.heap.size) : NmS (w.alloc (.cells (ss.map Value.string).toArray t fr)) R w.heap.size 0 ss :=
  ⟨hR, by rw [World.size_alloc]; omega, fun k hk => lit_cell w _ t fr k _ (by simp [hk])⟩
theorem of_t (R p : Nat) (b o cap : Nat) (ss : List ByteArray) (w : World) (h : Rd w R p) (hp : p ≤ 1000000) (hn1 : 1 ≤ ss.length) (hn2 : ss.length ≤ 1000) (hN : NmS w R b o ss) :
    Calls Tryz.prog 50 #[.pointer (some ⟨R, 0, none⟩), .slice (some ⟨b, o, none⟩) ss.length cap] w fun e w' => ∃ s, s ∈ ss ∧ e = .returned (.string s) ∧ DrewT R (p + 1) w w' :=
  (of_any R p b o cap ss w h hp hn1 hn2 (by have := hN.1; omega) hN.2.2).mono fun e w' ⟨s, hs, he, q, hw⟩ => ⟨s, hs, he, by rw [hw]; exact ⟨⟨p + 1, Nat.le_refl _, h.pick q⟩, touch_pickW _ _ _ _⟩⟩
theorem num_t (R p : Nat) (ss : List Int) (w : World) (t : TypeId) (fr : Nat × Nat) (h : Rd w R p) (hp : p ≤ 1000000) (hn1 : 1 ≤ ss.length) (hn2 : ss.length ≤ 1000) :
    Calls Tryz.prog 49 #[.pointer (some ⟨R, 0, none⟩), .slice (some ⟨w.heap.size, 0, none⟩) ss.length ss.length] (w.alloc (.cells (ss.map (Value.int .i64)).toArray t fr)) fun e w' => ∃ s, s ∈ ss ∧ e = .returned (.int .i64 s) ∧ DrewT R (p + 1) w w' := by
  have hlt := h.lt
  have hb : Below w.heap.size w (w.alloc (.cells (ss.map (Value.int .i64)).toArray t fr)) := (Below.refl _ _).alloc (Nat.le_refl _) _
  refine (num_any R p w.heap.size 0 ss.length ss _ (h.keep hb) hp hn1 hn2 (by omega) ?_).mono ?_
  · intro k hk
    exact lit_cell w _ t fr k _ (by simp [hk])
  · rintro e w' ⟨s, hs, rfl, q, rfl⟩
    exact ⟨s, hs, rfl, ⟨p + 1, Nat.le_refl _, (h.keep hb).pick q⟩, (Touch.of_below hb hlt).trans (touch_pickW _ _ _ _)⟩
theorem oflit_t (R p : Nat) (ss : List ByteArray) (w : World) (t : TypeId) (fr : Nat × Nat) (h : Rd w R p) (hp : p ≤ 1000000) (hn1 : 1 ≤ ss.length) (hn2 : ss.length ≤ 1000) :
    Calls Tryz.prog 50 #[.pointer (some ⟨R, 0, none⟩), .slice (some ⟨w.heap.size, 0, none⟩) ss.length ss.length] (w.alloc (.cells (ss.map Value.string).toArray t fr)) fun e w' => ∃ s, s ∈ ss ∧ e = .returned (.string s) ∧ DrewT R (p + 1) w w' := by
  have hb : Below w.heap.size w (w.alloc (.cells (ss.map Value.string).toArray t fr)) := (Below.refl _ _).alloc (Nat.le_refl _) _
  exact (of_t R p w.heap.size 0 ss.length ss _ (h.keep hb) hp hn1 hn2 (NmS.lit ss t fr h.lt)).mono fun e w' ⟨s, hs, he, hd⟩ => ⟨s, hs, he, hd.1, (Touch.of_below hb h.lt).trans hd.2⟩

end Go.Proofs.YtkhcfhhejmkikaaGreatDoor

namespace Go.Proofs.YtkhcfhhejmkikaaGreatDoor
open Go.RowKit
set_option maxRecDepth 100000

/-- A cursor at a place of a list of words. -/
structure Cu (w : World) (R : Nat) (A : Option Addr) (cap : Nat) (ws : List W) (k : Nat) : Prop where
  wd : Words w R A ws
  lt : R < w.heap.size
  c0 : w.cell? ⟨R, 0, none⟩ = some (.slice A ws.length cap)
  c1 : w.cell? ⟨R, 1, none⟩ = some (.int .i64 (k : Int))
  f1 : w.frozen? ⟨R, 1, none⟩ = false
  le : k ≤ ws.length
theorem Cu.below {w w' : World} {R cap k : Nat} {A : Option Addr} {ws : List W} (h : Cu w R A cap ws k) (hb : Below w.heap.size w w') : Cu w' R A cap ws k :=
  ⟨h.wd.below (hb.mono (Nat.le_of_lt h.lt)), Nat.lt_of_lt_of_le h.lt hb.size, (hb.cell (p := ⟨R, 0, none⟩) h.lt).trans h.c0, (hb.cell (p := ⟨R, 1, none⟩) h.lt).trans h.c1, (hb.frozen (p := ⟨R, 1, none⟩) h.lt).trans h.f1, h.le⟩
theorem Cu.drew {w : World} {R cap k : Nat} {A : Option Addr} {ws : List W} (h : Cu w R A cap ws k) : Cu w.drew R A cap ws k := h.below (Below.refl _ _).drew
theorem Cu.drewN {w : World} {R cap k : Nat} {A : Option Addr} {ws : List W} (h : Cu w R A cap ws k) (n : Nat) : Cu (w.drewN n) R A cap ws k := h.below (below_drewN (Below.refl _ _) n)
theorem Cu.next {w : World} {R cap k k' : Nat} {A : Option Addr} {ws : List W} (h : Cu w R A cap ws k) (hk : k' ≤ ws.length) : Cu (w.setCell ⟨R, 1, none⟩ (.int .i64 (k' : Int))) R A cap ws k' :=
  ⟨h.wd.below ((Below.refl R w).setCell (p := ⟨R, 1, none⟩) (Nat.le_refl _) _), by simpa using h.lt, by rw [World.cell?_setCell_other _ _ _ _ (by simp)]; exact h.c0, World.cell?_setCell_same _ _ _ h.c1, by rw [World.frozen?_setCell]; exact h.f1, hk⟩
theorem touch_next (w : World) (R : Nat) (v : Value) : Touch R w (w.setCell ⟨R, 1, none⟩ v) := by
  refine ⟨(Below.refl R w).setCell (p := ⟨R, 1, none⟩) (Nat.le_refl _) _, fun b h1 h2 => ?_⟩
  show (w.heap.modify R _)[b]? = _
  rw [Array.getElem?_modify, if_neg (by omega)]
set_option maxHeartbeats 1000000 in
theorem atEnd_any (R cap k : Nat) (A : Option Addr) (ws : List W) (w : World) (h : Cu w R A cap ws k) :
    Calls Tryz.prog 30 #[.pointer (some ⟨R, 0, none⟩)] w fun ee w' => ee = .returned (.bool (decide (k = ws.length))) ∧ w' = w.drew := by
  have c0 := h.c0
  have c1 := h.c1
  have hk := h.le
  clear h
  by_cases he : k = ws.length
  · have q1 : ((k : Int) == (ws.length : Int)) = true := beq_yes (by omega)
    rw [decide_eq_true he]
    clear he
    go_enter Tryz.func30, Tryz.ntmps30
    go_wp2_with fail
    go_region
    all_goals
      go_wp2_with fail
      go_ret
      exact ⟨rfl, rfl⟩
  · have q1 : ((k : Int) == (ws.length : Int)) = false := beq_no (by omega)
    rw [decide_eq_false he]
    clear he
    go_enter Tryz.func30, Tryz.ntmps30
    go_wp2_with fail
    go_region
    all_goals
      go_wp2_with fail
      go_ret
      exact ⟨rfl, rfl⟩
/-- A move of a cursor: of its block one cell turns, and nothing else but new ones. -/
def Mv (R : Nat) (w w' : World) : Prop := Touch R w w' ∧ ∀ o, o ≠ 1 → w'.cell? ⟨R, o, none⟩ = w.cell? ⟨R, o, none⟩
theorem Mv.trans {R : Nat} {a b c : World} (h : Mv R a b) (k : Mv R b c) : Mv R a c := ⟨h.1.trans k.1, fun o ho => (k.2 o ho).trans (h.2 o ho)⟩
theorem Mv.of_below {R : Nat} {a b : World} (h : Below a.heap.size a b) (hR : R < a.heap.size) : Mv R a b := ⟨Touch.of_below h hR, fun o _ => h.cell (p := ⟨R, o, none⟩) hR⟩
theorem Mv.next (w : World) (R : Nat) (v : Value) : Mv R w (w.setCell ⟨R, 1, none⟩ v) := ⟨touch_next w R v, fun o ho => World.cell?_setCell_other _ _ _ _ (by intro e; injection e with _ e; omega)⟩
/-- Taking a text, or not. -/
def TookT (R cap k : Nat) (A : Option Addr) (ws : List W) (t : ByteArray) (w : World) (ee : Ending) (w' : World) : Prop :=
  ee = .returned (.bool (isT (ws.drop k) t)) ∧ Mv R w w' ∧ Cu w' R A cap ws (if isT (ws.drop k) t = true then k + 1 else k)
set_option maxHeartbeats 2000000 in
theorem takeText_any (R cap k : Nat) (A : Option Addr) (ws : List W) (t : ByteArray) (w : World) (h : Cu w R A cap ws k) (hn : ws.length ≤ 600) :
    Calls Tryz.prog 100 #[.pointer (some ⟨R, 0, none⟩), .string t] w (TookT R cap k A ws t w) := by
  have AE := fun n => Lib.hid (atEnd_any R cap k A ws (w.drewN n) (h.drewN n))
  have HC := Lib.hid h
  by_cases hk : k < ws.length
  · obtain ⟨b, o, rfl, hB, d1, d2⟩ := h.wd.at_ hk
    have c0 := h.c0
    have c1 := h.c1
    have f1 := h.f1
    have e0 : decide (k = ws.length) = false := decide_eq_false (by omega)
    rw [e0] at AE
    have HT := Lib.hid (show isT (ws.drop k) t = decide (ws[k].2 = t) by rw [isT_drop, dif_pos hk])
    have hk1 : (0 : Int) ≤ (k : Int) := by omega
    have hk2 : (k : Int) < (ws.length : Int) := by omega
    have hk3 : k ≤ 600 := by omega
    clear h e0
    by_cases he : ws[k].2 = t
    · have q1 := str_eq_true he
      have q2 : (ws[k].2.toList != t.toList) = false := by rw [bne, q1]; rfl
      rw [decide_eq_true he] at HT
      clear he
      generalize ws[k].2 = s at *
      go_enter Tryz.func100, Tryz.ntmps100
      go_wp2_with fail
      go_quiet (first | (go_at_call 30; exact Calls.quiet_of ((AE _).out.mono fun _ _ h => ⟨h.1, 1, h.2⟩)))
      go_wp2_with fail
      go_ret
      refine ⟨by rw [HT.out]; rfl, ?_, ?_⟩
      · exact (Mv.of_below (below_drewN (Below.refl _ w) _) HC.out.lt).trans (Mv.next _ _ _)
      · rw [HT.out, if_pos rfl]
        exact (HC.out.drewN _).next hk
    · have q1 := str_eq_false he
      have q2 : (ws[k].2.toList != t.toList) = true := by rw [bne, q1]; rfl
      rw [decide_eq_false he] at HT
      clear he
      generalize ws[k].2 = s at *
      go_enter Tryz.func100, Tryz.ntmps100
      go_wp2_with fail
      go_quiet (first | (go_at_call 30; exact Calls.quiet_of ((AE _).out.mono fun _ _ h => ⟨h.1, 1, h.2⟩)))
      go_wp2_with fail
      go_ret
      refine ⟨by rw [HT.out]; rfl, ?_, ?_⟩
      · exact Mv.of_below (below_drewN (Below.refl _ w) _) HC.out.lt
      · rw [HT.out, if_neg (by simp)]; exact HC.out.drewN _
  · have e0 : decide (k = ws.length) = true := decide_eq_true (by have := h.le; omega)
    rw [e0] at AE
    have HT := Lib.hid (show isT (ws.drop k) t = false by rw [isT_drop, dif_neg hk])
    clear h e0
    go_enter Tryz.func100, Tryz.ntmps100
    go_wp2_with fail
    go_quiet (first | (go_at_call 30; exact Calls.quiet_of ((AE _).out.mono fun _ _ h => ⟨h.1, 1, h.2⟩)))
    go_wp2_with fail
    go_ret
    refine ⟨by rw [HT.out]; rfl, ?_, ?_⟩
    · exact Mv.of_below (below_drewN (Below.refl _ w) _) HC.out.lt
    · rw [HT.out, if_neg (by simp)]; exact HC.out.drewN _
end Go.Proofs.YtkhcfhhejmkikaaGreatDoor
