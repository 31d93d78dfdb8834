/-
  Kinds of ops: what kindOf returns, and what the kinds' methods answer.
-/
import Derived.Test.YtljdbjfbcjigaaaGreatDoorMg1
import Derived.Test.YtljdbjfbcjigaaaGreatDoorMg10
import Derived.Test.YtljdbjfbcjigaaaGreatDoorMg11
import Derived.Test.YtljdbjfbcjigaaaGreatDoorMg3
import Derived.Test.YtljdbjfbcjigaaaGreatDoorMg9
import Derived.Deep.RegionWith
namespace Go.Proofs.YtljdbjfbcjigaaaGreatDoor
open Go.RowKit

def lbS : ByteArray := ⟨#[123]⟩
def rbS : ByteArray := ⟨#[125]⟩
def scS : ByteArray := ⟨#[59]⟩
def eqS : ByteArray := ⟨#[61]⟩
def fnS : ByteArray := ⟨#[102, 110]⟩
def elseS : ByteArray := ⟨#[101, 108, 115, 101]⟩
/-- The key with which a statement begins. -/
def keyT (op : Int) : ByteArray := if op = 1 then ⟨#[108, 101, 116]⟩ else if op = 3 then ⟨#[115, 97, 121]⟩ else if op = 4 then ⟨#[112, 117, 116]⟩ else if op = 5 then ⟨#[105, 102]⟩ else if op = 6 then ⟨#[108, 111, 111, 112]⟩ else if op = 7 then ⟨#[98, 97, 99, 107]⟩ else if op = 8 then ⟨#[100, 111]⟩ else ⟨#[]⟩
def headW (op : Int) (s : ByteArray) : List W := (if op = 2 then [] else [(4, keyT op)]) ++ (if op = 1 ∨ op = 2 then [(1, s), (3, eqS)] else [])
/-- The words of the Args of a statement. -/
def argsW (a : List E) : List W := callTo a a.length
mutual
/-- The words of a statement. -/
def wT : St → List W
  | .mk op s a b e => headW op s ++ (argsW a ++ (if op = 5 ∨ op = 6 then ((3, lbS) :: (wTL b ++ [(3, rbS)])) ++ (if e.isEmpty = true then [] else (4, elseS) :: ((3, lbS) :: (wTL e ++ [(3, rbS)]))) else [(3, scS)]))
def wTL : List St → List W
  | [] => []
  | t :: l => wT t ++ wTL l
end
/-- The words of a block. -/
def blkW (l : List St) : List W := (3, lbS) :: (wTL l ++ [(3, rbS)])
def tailW (op : Int) (b e : List St) : List W := if op = 5 ∨ op = 6 then blkW b ++ (if e.isEmpty = true then [] else (4, elseS) :: blkW e) else [(3, scS)]
theorem wT_eq (t : St) : wT t = headW t.op t.name ++ (argsW t.args ++ tailW t.op t.body t.els) := by cases t; rfl
theorem wTL_app : ∀ (a b : List St), wTL (a ++ b) = wTL a ++ wTL b
  | [], b => rfl
  | x :: a, b => by show wT x ++ wTL (a ++ b) = (wT x ++ wTL a) ++ wTL b; rw [wTL_app a b, List.append_assoc]
theorem wTL_take {ks : List St} {i : Nat} (h : i < ks.length) : wTL (ks.take (i + 1)) = wTL (ks.take i) ++ wT ks[i] := by
  rw [List.take_succ_eq_append_getElem h, wTL_app]; show _ ++ (wT ks[i] ++ []) = _; rw [List.append_nil]
/-- The words of names, with commas between. -/
def parTo (ps : List ByteArray) (i : Nat) : List W := commas ((ps.take i).map fun s => [(1, s)])
theorem parTo_zero (ps : List ByteArray) : parTo ps 0 = [] := rfl
theorem parTo_first {ps : List ByteArray} (h : 0 < ps.length) : parTo ps 1 = ([(1, ps[0])] : List W) := by
  unfold parTo
  rw [List.take_succ_eq_append_getElem h]
  rfl
theorem parTo_next {ps : List ByteArray} {i : Nat} (h : i < ps.length) (h0 : 0 < i) : parTo ps (i + 1) = parTo ps i ++ [(3, cmS), (1, ps[i])] := by
  unfold parTo
  rw [List.take_succ_eq_append_getElem h, List.map_append]
  exact commas_snoc _ _ (by
    intro hn
    have := congrArg List.length hn
    rw [List.length_map, List.length_take, List.length_nil] at this
    omega)
theorem parTo_len (ps : List ByteArray) : ∀ (i : Nat), i ≤ ps.length → (parTo ps i).length ≤ 2 * i
  | 0, _ => Nat.zero_le _
  | i + 1, h => by
    have ih := parTo_len ps i (by omega)
    by_cases h0 : i = 0
    · subst h0; rw [parTo_first h]; show 1 ≤ 2; omega
    · rw [parTo_next h (by omega), List.length_append]; show _ + 2 ≤ _; omega
def headFW (f : Fu) : List W := [(4, fnS), (1, f.name), (3, lpS)]
/-- The words of a function. -/
def wF (f : Fu) : List W := headFW f ++ (parTo f.params f.params.length ++ ((3, rpS) :: blkW f.body))
def wP : List Fu → List W
  | [] => []
  | f :: l => wF f ++ wP l
theorem wP_app : ∀ (a b : List Fu), wP (a ++ b) = wP a ++ wP b
  | [], b => rfl
  | x :: a, b => by show wF x ++ wP (a ++ b) = (wF x ++ wP a) ++ wP b; rw [wP_app a b, List.append_assoc]
theorem wP_take {ks : List Fu} {i : Nat} (h : i < ks.length) : wP (ks.take (i + 1)) = wP (ks.take i) ++ wF ks[i] := by
  rw [List.take_succ_eq_append_getElem h, wP_app]; show _ ++ (wF ks[i] ++ []) = _; rw [List.append_nil]

/-- What a form says of a statement. -/
theorem form_head {d : Nat} {t : St} (h : formT d t = true) : headT t = true := by
  cases d with
  | zero => cases h
  | succ d => rw [formT_succ, Bool.and_eq_true] at h; exact h.1
theorem form_body {d : Nat} {t : St} (h : formT (d + 1) t = true) : (∀ k ∈ t.body, formT d k = true) ∧ (∀ k ∈ t.els, formT d k = true) := by
  rw [formT_succ, Bool.and_eq_true, Bool.and_eq_true] at h
  exact ⟨List.all_eq_true.1 h.2.1, List.all_eq_true.1 h.2.2⟩
theorem head_parts {t : St} (h : headT t = true) : (1 ≤ t.op ∧ t.op ≤ 8) ∧ nameFit t.op t.name = true ∧ t.args.length = argN t.op ∧ (∀ e ∈ t.args, argOk t.op e = true) ∧ (t.body.length = 0 ∨ t.op = 5 ∨ t.op = 6) ∧ (t.els.length = 0 ∨ t.op = 5) := by
  unfold headT restFit argsFit bodyFit elseFit at h
  simp only [Bool.and_eq_true, decide_eq_true_eq] at h
  obtain ⟨h0, ⟨⟨h1, h2, h3⟩, h4⟩, h5⟩ := h
  exact ⟨h0, h1, h2, List.all_eq_true.1 h3, h4, h5⟩
theorem arg_valid {op : Int} {e : E} (h : argOk op e = true) : validE e = true := by unfold argOk at h; rw [Bool.and_eq_true] at h; exact h.1
theorem argN_le (op : Int) : argN op ≤ 2 := by unfold argN; split <;> omega
theorem argN_pos (op : Int) : 0 < argN op := by unfold argN; split <;> omega
theorem args_size : ∀ {a : List E}, (∀ e ∈ a, validE e = true) → sizeL a ≤ 30 * a.length
  | [], _ => Nat.zero_le _
  | x :: a, h => by
    have h1 := validE_size (h x (by simp))
    have h2 := args_size (a := a) (fun e he => h e (by simp [he]))
    show sizeE x + sizeL a ≤ 30 * (a.length + 1)
    omega
theorem argsW_len {a : List E} (h : ∀ e ∈ a, validE e = true) : (argsW a).length ≤ 180 * a.length := by
  unfold argsW
  rw [callTo_end]
  have h1 := commas_bd a 0 (fun k hk l => wE_bd 6 k (validE_form (h k hk)) l)
  have h2 := args_size h
  omega
theorem headW_len (op : Int) (s : ByteArray) : (headW op s).length ≤ 3 := by
  unfold headW
  rw [List.length_append]
  split <;> split <;> simp
theorem blkW_len (l : List St) : (blkW l).length = (wTL l).length + 2 := by unfold blkW; simp
theorem tailW_len (op : Int) (b e : List St) : (tailW op b e).length ≤ (wTL b).length + (wTL e).length + 5 := by
  unfold tailW
  split
  · rw [List.length_append, blkW_len]
    split
    · show _ + 0 ≤ _; omega
    · rw [List.length_cons, blkW_len]; omega
  · simp
theorem wTL_bd {P : St → Prop} (h : ∀ t, P t → (wT t).length ≤ 400 * sizeT t) : ∀ (l : List St), (∀ t ∈ l, P t) → (wTL l).length ≤ 400 * sizeTL l
  | [], _ => Nat.zero_le _
  | t :: l, hl => by
    have h1 := h t (hl t (by simp))
    have h2 := wTL_bd h l (fun t ht => hl t (by simp [ht]))
    show (wT t ++ wTL l).length ≤ 400 * (sizeT t + sizeTL l)
    rw [List.length_append]
    omega
theorem wT_len : ∀ (d : Nat) (t : St), formT d t = true → (wT t).length ≤ 400 * sizeT t
  | 0, _, h => by cases h
  | d + 1, t, h => by
    obtain ⟨_, _, h2, h3, _⟩ := head_parts (form_head h)
    obtain ⟨hb, he⟩ := form_body h
    have b1 := wTL_bd (P := fun t => formT d t = true) (wT_len d) t.body hb
    have b2 := wTL_bd (P := fun t => formT d t = true) (wT_len d) t.els he
    have a1 := argsW_len (a := t.args) (fun e he => arg_valid (h3 e he))
    have a2 := argN_le t.op
    have a3 := headW_len t.op t.name
    have a4 := tailW_len t.op t.body t.els
    rw [wT_eq, sizeT_kids, List.length_append, List.length_append]
    omega
theorem wTL_len {d : Nat} {l : List St} (h : ∀ t ∈ l, formT d t = true) : (wTL l).length ≤ 400 * sizeTL l := wTL_bd (P := fun t => formT d t = true) (wT_len d) l h

theorem valid_key {s : ByteArray} (h : isKeyB s = true) : validB 4 s = true := by
  unfold validB
  rw [if_neg (by decide), if_neg (by decide), if_neg (by decide), if_pos rfl, h]
theorem key_of {op : Int} (h : 1 ≤ op ∧ op ≤ 8) (h2 : op ≠ 2) : isKeyB (keyT op) = true := by
  have h3 : op = 1 ∨ op = 3 ∨ op = 4 ∨ op = 5 ∨ op = 6 ∨ op = 7 ∨ op = 8 := by omega
  rcases h3 with rfl | rfl | rfl | rfl | rfl | rfl | rfl <;> decide +kernel
theorem valid_lb : validB 3 lbS = true := valid_byte (by decide)
theorem valid_rb : validB 3 rbS = true := valid_byte (by decide)
theorem valid_sc : validB 3 scS = true := valid_byte (by decide)
theorem valid_eq : validB 3 eqS = true := valid_byte (by decide)
theorem valid_fn : validB 4 fnS = true := valid_key (by decide +kernel)
theorem valid_else : validB 4 elseS = true := valid_key (by decide +kernel)
theorem AllV.one {x : W} (h : validB x.1 x.2 = true) : AllV [x] := AllV.cons h AllV.nil
theorem headW_valid {op : Int} {s : ByteArray} (h : 1 ≤ op ∧ op ≤ 8) (hn : nameFit op s = true) : AllV (headW op s) := by
  unfold headW
  refine AllV.app ?_ ?_
  · split
    · exact AllV.nil
    · rename_i h2; exact AllV.one (valid_key (key_of h h2))
  · split
    · rename_i h2
      unfold nameFit at hn
      rw [if_pos h2] at hn
      exact AllV.cons (valid_name hn) (AllV.one valid_eq)
    · exact AllV.nil
theorem argsW_valid {a : List E} (h : ∀ e ∈ a, validE e = true) : AllV (argsW a) := by
  unfold argsW
  rw [callTo_end]
  refine allV_commas fun p hp => ?_
  obtain ⟨j, hj, rfl⟩ := List.getElem_of_mem hp
  have hj' : j < a.length := by rw [wL_length] at hj; exact hj
  rw [wL_get 13 0 a j hj' hj]
  exact wE_valid 6 _ (validE_form (h _ (List.getElem_mem hj'))) _
theorem wTL_val {P : St → Prop} (h : ∀ t, P t → AllV (wT t)) : ∀ (l : List St), (∀ t ∈ l, P t) → AllV (wTL l)
  | [], _ => AllV.nil
  | t :: l, hl => (h t (hl t (by simp))).app (wTL_val h l (fun t ht => hl t (by simp [ht])))
theorem blkW_valid {l : List St} (h : AllV (wTL l)) : AllV (blkW l) := AllV.cons valid_lb (h.app (AllV.one valid_rb))
theorem wT_valid : ∀ (d : Nat) (t : St), formT d t = true → AllV (wT t)
  | 0, _, h => by cases h
  | d + 1, t, h => by
    obtain ⟨h0, h1, h2, h3, _⟩ := head_parts (form_head h)
    obtain ⟨hb, he⟩ := form_body h
    have b1 := wTL_val (P := fun t => formT d t = true) (wT_valid d) t.body hb
    have b2 := wTL_val (P := fun t => formT d t = true) (wT_valid d) t.els he
    rw [wT_eq]
    refine (headW_valid h0 h1).app ((argsW_valid fun e he => arg_valid (h3 e he)).app ?_)
    unfold tailW
    split
    · refine (blkW_valid b1).app ?_
      split
      · exact AllV.nil
      · exact AllV.cons valid_else (blkW_valid b2)
    · exact AllV.one valid_sc
theorem wTL_valid {d : Nat} {l : List St} (h : ∀ t ∈ l, formT d t = true) : AllV (wTL l) := wTL_val (P := fun t => formT d t = true) (wT_valid d) l h
theorem wT_ne (t : St) : wT t ≠ [] := by
  rw [wT_eq]
  unfold tailW
  split <;> simp [blkW]
theorem fn_parts {f : Fu} (h : fnB f = true) : nameB f.name = true ∧ f.params.length ≤ 3 ∧ (∀ s ∈ f.params, nameB s = true) ∧ (∀ t ∈ f.body, formT 4 t = true) := by
  unfold fnB headF at h
  simp only [Bool.and_eq_true, decide_eq_true_eq] at h
  exact ⟨h.1.1, h.1.2.1, List.all_eq_true.1 h.1.2.2, List.all_eq_true.1 h.2⟩
theorem parTo_valid {ps : List ByteArray} (h : ∀ s ∈ ps, nameB s = true) (i : Nat) : AllV (parTo ps i) := by
  unfold parTo
  refine allV_commas fun p hp => ?_
  obtain ⟨s, hs, rfl⟩ := List.mem_map.1 hp
  exact AllV.one (valid_name (h s (List.mem_of_mem_take hs)))
theorem headFW_valid {f : Fu} (h : nameB f.name = true) : AllV (headFW f) := AllV.cons valid_fn (AllV.cons (valid_name h) (AllV.one valid_lp))
theorem wF_valid {f : Fu} (h : fnB f = true) : AllV (wF f) := by
  obtain ⟨h1, _, h3, h4⟩ := fn_parts h
  exact (headFW_valid h1).app ((parTo_valid h3 _).app (AllV.cons valid_rp (blkW_valid (wTL_valid h4))))
theorem wF_len {f : Fu} (h : fnB f = true) : (wF f).length ≤ 12 + 400 * sizeTL f.body := by
  obtain ⟨_, h2, _, h4⟩ := fn_parts h
  have a := parTo_len f.params f.params.length (Nat.le_refl _)
  have b := wTL_len h4
  have c := blkW_len f.body
  unfold wF
  rw [List.length_append, List.length_append, List.length_cons, c]
  show 3 + _ ≤ _
  omega
theorem wF_ne (f : Fu) : wF f ≠ [] := by unfold wF headFW; simp
theorem wP_valid : ∀ {p : List Fu}, (∀ f ∈ p, fnB f = true) → AllV (wP p)
  | [], _ => AllV.nil
  | f :: p, h => (wF_valid (h f (by simp))).app (wP_valid fun g hg => h g (by simp [hg]))
theorem wP_len : ∀ {p : List Fu}, (∀ f ∈ p, fnB f = true) → (wP p).length ≤ 12 * p.length + 400 * countP p
  | [], _ => Nat.zero_le _
  | f :: p, h => by
    have h1 := wF_len (h f (by simp))
    have h2 := wP_len (p := p) fun g hg => h g (by simp [hg])
    show (wF f ++ wP p).length ≤ 12 * (p.length + 1) + 400 * (sizeTL f.body + countP p)
    rw [List.length_append]
    omega
theorem prog_parts {p : List Fu} (h : progB p = true) : (1 ≤ p.length ∧ p.length ≤ 4) ∧ (∀ f ∈ p, fnB f = true) ∧ countP p ≤ 40 := by
  unfold progB at h
  simp only [Bool.and_eq_true, decide_eq_true_eq] at h
  exact ⟨h.1, List.all_eq_true.1 h.2.1, h.2.2⟩

/-- A joined text is cut and joined again as its words are joined, however many they are. -/
theorem plain_tx {ws : List W} (h : AllV ws) : plainF (tx ws) = joinF ws := by
  have hc : cutF (tx ws) 0 = some ws := by
    rw [cut_list, tx_list]
    have := cutL_join h ws.length (Nat.le_refl _)
    rw [List.take_length] at this
    exact this
  unfold plainF
  by_cases hl : ws.length ≤ 600
  · have hs := tx_size h
    rw [cutRes_yes (by omega) hc hl]
    rfl
  · rw [cutRes_many (fun us hu => by rw [hc] at hu; injection hu with hu; subst hu; omega)]
    rw [joinF_long (by omega : 600 < ws.length)]
    rfl
/-- What ProgramText returns. -/
noncomputable def textP (p : List Fu) : ByteArray × Bool := if progB p = true then joinF (wP p) else (⟨#[]⟩, false)

/-- Texts of statements, as the model writes them. -/
theorem tx_pre (k : Int) (s : ByteArray) {l : List W} (h : l ≠ []) : tx ((k, s) :: l) = (s ++ ⟨#[32]⟩) ++ tx l := by
  apply ba_ext
  rw [tx_list, joinB_cons _ h]
  simp [tx_list]
theorem tx_snoc (k : Int) (b : UInt8) {l : List W} (h : l ≠ []) : tx (l ++ [(k, ⟨#[b]⟩)]) = tx l ++ ⟨#[32, b]⟩ := by
  apply ba_ext
  rw [tx_list, joinB_snoc h]
  simp [tx_list]
theorem argsW_one (e : E) : argsW [e] = wE e 1 := by
  unfold argsW
  exact callTo_first (ks := [e]) (by simp)
theorem argsW_two (e f : E) : argsW [e, f] = wE e 1 ++ (3, cmS) :: wE f 1 := by
  unfold argsW
  have h := callTo_next (ks := [e, f]) (i := 1) (by simp) (by omega)
  have h1 := callTo_first (ks := [e, f]) (by simp)
  rw [h1] at h
  exact h
theorem tx_key (op : Int) {l : List W} (h : l ≠ []) : tx ((4, keyT op) :: l) = (keyT op ++ ⟨#[32]⟩) ++ tx l := tx_pre 4 _ h
theorem tx_set (s : ByteArray) {we : List W} (h : we ≠ []) : tx ([(1, s), (3, eqS)] ++ (we ++ [(3, scS)])) = ((s ++ ⟨#[32, 61, 32]⟩) ++ tx we) ++ ⟨#[32, 59]⟩ := by
  apply ba_ext
  rw [tx_list]
  show joinB ((1, s) :: (3, eqS) :: (we ++ [(3, scS)])) = _
  rw [joinB_cons _ (by simp), joinB_cons _ (by simp), joinB_snoc h]
  simp [tx_list, eqS, scS]
theorem tx_let (s : ByteArray) {we : List W} (h : we ≠ []) : tx ((4, keyT 1) :: ([(1, s), (3, eqS)] ++ (we ++ [(3, scS)]))) = (((⟨#[108, 101, 116, 32]⟩ ++ s) ++ ⟨#[32, 61, 32]⟩) ++ tx we) ++ ⟨#[32, 59]⟩ := by
  apply ba_ext
  rw [tx_list, joinB_cons _ (by simp), ← tx_list, tx_set s h]
  simp [keyT]
theorem tx_plain (op : Int) (k : List UInt8) (hk : (keyT op).data.toList ++ [32] = k) {we : List W} (h : we ≠ []) : tx ((4, keyT op) :: (we ++ [(3, scS)])) = (⟨k.toArray⟩ ++ tx we) ++ ⟨#[32, 59]⟩ := by
  subst hk
  apply ba_ext
  rw [tx_list, joinB_cons _ (by simp), joinB_snoc h]
  simp [tx_list, scS]
theorem tx_put {we wf : List W} (h : we ≠ []) (h' : wf ≠ []) : tx ((4, keyT 4) :: ((we ++ (3, cmS) :: wf) ++ [(3, scS)])) = ((((⟨#[112, 117, 116, 32]⟩ ++ tx we) ++ ⟨#[32, 44, 32]⟩) ++ tx wf) ++ ⟨#[32, 59]⟩) := by
  apply ba_ext
  rw [tx_list, joinB_cons _ (by simp), joinB_snoc (by simp), joinB_app h (by simp), joinB_cons _ h']
  simp [tx_list, keyT, cmS, scS]
theorem tx_blk (op : Int) (k : List UInt8) (hk : (keyT op).data.toList ++ [32] = k) {we wb : List W} (h : we ≠ []) (h' : wb ≠ []) : tx ((4, keyT op) :: (we ++ wb)) = ((⟨k.toArray⟩ ++ tx we) ++ ⟨#[32]⟩) ++ tx wb := by
  subst hk
  apply ba_ext
  rw [tx_list, joinB_cons _ (by simp [h]), joinB_app h h']
  simp [tx_list]
theorem tx_else {l we : List W} (h : l ≠ []) (h' : we ≠ []) : tx (l ++ (4, elseS) :: we) = (tx l ++ ⟨#[32, 101, 108, 115, 101, 32]⟩) ++ tx we := by
  apply ba_ext
  rw [tx_list, joinB_app h (by simp), joinB_cons _ h']
  simp [tx_list, elseS]
theorem blkW_ne (l : List St) : blkW l ≠ [] := by unfold blkW; simp
theorem wE_ne1 {e : E} (h : validE e = true) : wE e 1 ≠ [] := (head_ok 6 e (validE_form h) 1 []).2
end Go.Proofs.YtljdbjfbcjigaaaGreatDoor

namespace Go.Proofs.YtljdbjfbcjigaaaGreatDoor
open Go.RowKit

theorem beq_no {a b : Int} (h : a ≠ b) : (a == b) = false := by rw [beq_eq_false_iff_ne]; exact h
theorem beq_yes {a b : Int} (h : a = b) : (a == b) = true := by rw [beq_iff_eq]; exact h
/-- A flag, and new blocks at most. -/
def BoolB (b : Bool) (w : World) (e : Ending) (w' : World) : Prop := e = .returned (.bool b) ∧ Below w.heap.size w w'
theorem two_boxes (w : World) (a b : Obj) : Below w.heap.size w ((w.alloc a).alloc b) := ((Below.refl _ _).alloc (Nat.le_refl _) _).alloc (by simp) _

/-- Four cells of a block. -/
def Bx4 (w : World) (k : Nat) (v0 v1 v2 v3 : Value) : Prop := w.cell? ⟨k, 0, none⟩ = some v0 ∧ w.cell? ⟨k, 1, none⟩ = some v1 ∧ w.cell? ⟨k, 2, none⟩ = some v2 ∧ w.cell? ⟨k, 3, none⟩ = some v3
theorem Bx4.below {w w' : World} {B k : Nat} {v0 v1 v2 v3 : Value} (h : Bx4 w k v0 v1 v2 v3) (hb : Below B w w') (hk : k < B) : Bx4 w' k v0 v1 v2 v3 :=
  ⟨(hb.cell (p := ⟨k, _, none⟩) hk).trans h.1, (hb.cell (p := ⟨k, _, none⟩) hk).trans h.2.1, (hb.cell (p := ⟨k, _, none⟩) hk).trans h.2.2.1, (hb.cell (p := ⟨k, _, none⟩) hk).trans h.2.2.2⟩
theorem Bx4.new (w : World) (v0 v1 v2 v3 : Value) (t : TypeId) : Bx4 (w.alloc (.cells #[v0, v1, v2, v3] t)) w.heap.size v0 v1 v2 v3 := ⟨alloc_cell w _ _ _ 0, alloc_cell w _ _ _ 1, alloc_cell w _ _ _ 2, alloc_cell w _ _ _ 3⟩
/-- One block turns, and new blocks are there. -/
structure Touch (g : Nat) (w w' : World) : Prop where
  below : Below g w w'
  above : ∀ k, g < k → k < w.heap.size → w'.heap[k]? = w.heap[k]?
theorem Touch.trans {g : Nat} {a b c : World} (h : Touch g a b) (k : Touch g b c) : Touch g a c :=
  ⟨h.below.trans k.below, fun i h1 h2 => (k.above i h1 (Nat.lt_of_lt_of_le h2 h.below.size)).trans (h.above i h1 h2)⟩
theorem Touch.of_below {g : Nat} {a b : World} (h : Below a.heap.size a b) (hg : g < a.heap.size) : Touch g a b := ⟨h.mono (Nat.le_of_lt hg), fun i _ h2 => h.block i h2⟩
theorem Touch.cell {g : Nat} {a b : World} (h : Touch g a b) {k o : Nat} (h1 : g < k) (h2 : k < a.heap.size) : b.cell? ⟨k, o, none⟩ = a.cell? ⟨k, o, none⟩ := by
  have := h.above k h1 h2
  unfold World.cell?
  dsimp only
  rw [this]
theorem Touch.refl (g : Nat) (w : World) : Touch g w w := ⟨Below.refl _ _, fun _ _ _ => rfl⟩
end Go.Proofs.YtljdbjfbcjigaaaGreatDoor

namespace Go.Proofs.YtljdbjfbcjigaaaGreatDoor
open Go.RowKit
set_option maxRecDepth 100000

/-- An op that has a sign, as cells. -/
def sgRow (k : Nat) : List Value := [.int .i64 (k + 3 : Nat), .string (sgnS (k + 3 : Nat)), .int .i64 (lvl (k + 3 : Nat) : Int)]
def sgCells : List Value := sgRow 0 ++ sgRow 1 ++ sgRow 2 ++ sgRow 3 ++ sgRow 4 ++ sgRow 5 ++ sgRow 6 ++ sgRow 7 ++ sgRow 8 ++ sgRow 9
def sgTab : Value := .agg sgCells.toArray
/-- The program's table of ops stands in the world. -/
structure Sgn (w : World) : Prop where
  row : ∃ t fr, w.heap[1]? = some (.cells sgCells.toArray t fr)
theorem Sgn.below {w w' : World} (T : Sgn w) (hb : Below w.heap.size w w') : Sgn w' := by
  obtain ⟨t, fr, h⟩ := T.row
  exact ⟨t, fr, by rw [hb.block _ (Array.getElem?_eq_some_iff.1 h).1]; exact h⟩
/-- The kind of an op, as a value. -/
def kindV (op : Int) : Value :=
  if op = 1 then .iface 145 (.agg #[])
  else if op = 2 then .iface 147 (.agg #[])
  else if op = 13 then .iface 154 (.agg #[])
  else if op = 11 ∨ op = 12 then .iface 153 (.agg (sgRow (op - 3).toNat).toArray)
  else if 3 ≤ op ∧ op ≤ 10 then .iface 151 (.agg (sgRow (op - 3).toNat).toArray)
  else .iface 219 (.agg #[])
theorem sgTab_at (k : Nat) (hk : k < 10) (w : World) : (Instr.index 218 sgTab (.int .i64 (k : Int))).run Tryz.prog w = .ok (.agg (sgRow k).toArray) w := by
  have h : k = 0 ∨ k = 1 ∨ k = 2 ∨ k = 3 ∨ k = 4 ∨ k = 5 ∨ k = 6 ∨ k = 7 ∨ k = 8 ∨ k = 9 := by omega
  rcases h with rfl | rfl | rfl | rfl | rfl | rfl | rfl | rfl | rfl | rfl <;> (show _ = _; kernel_rfl)

theorem kindV_at (k : Nat) (hk : k < 10) : kindV (k + 3 : Nat) = if lvl (k + 3 : Nat) = 5 then .iface 153 (.agg #[.int .i64 (k + 3 : Nat), .string (sgnS (k + 3 : Nat)), .int .i64 (lvl (k + 3 : Nat) : Int)]) else .iface 151 (.agg #[.int .i64 (k + 3 : Nat), .string (sgnS (k + 3 : Nat)), .int .i64 (lvl (k + 3 : Nat) : Int)]) := by
  have h : k = 0 ∨ k = 1 ∨ k = 2 ∨ k = 3 ∨ k = 4 ∨ k = 5 ∨ k = 6 ∨ k = 7 ∨ k = 8 ∨ k = 9 := by omega
  rcases h with rfl | rfl | rfl | rfl | rfl | rfl | rfl | rfl | rfl | rfl <;> rfl
set_option maxHeartbeats 1000000 in
theorem kindOf_first (op : Int) (w : World) (h : op = 1 ∨ op = 2 ∨ op = 13) :
    Calls Tryz.prog 96 #[.int .i64 op] w fun e w' => e = .returned (kindV op) ∧ w = w' := by
  rcases h with rfl | rfl | rfl
  all_goals
    go_enter Tryz.func96, Tryz.ntmps96
    go_wp2
    go_ret
    exact ⟨rfl, rfl⟩
set_option maxHeartbeats 1000000 in
theorem kindOf_rest (op : Int) (w : World) (h : ¬ (op = 1 ∨ op = 2 ∨ op = 13)) (T : Sgn w) :
    Calls Tryz.prog 96 #[.int .i64 op] w fun e w' => e = .returned (kindV op) ∧ Below w.heap.size w w' := by
  obtain ⟨t, fr, hk⟩ := T.row
  clear T
  have b1 : (op == 1) = false := by rw [beq_eq_false_iff_ne]; omega
  have b2 : (op == 2) = false := by rw [beq_eq_false_iff_ne]; omega
  have b3 : (op == 13) = false := by rw [beq_eq_false_iff_ne]; omega
  have HH := Lib.hid h
  clear h
  go_enter Tryz.func96, Tryz.ntmps96
  go_wp2_with (with_reducible refine wpList_load_row rfl _ _ rfl _ rfl _ _ _ _ hk Tryz.underlying218 rfl (by kernel_rfl) ?_)
  clear hk
  have hidx := sgTab_at
  unfold sgTab at hidx
  generalize Value.agg sgCells.toArray = KT at *
  have HI := Lib.hid hidx
  clear hidx
  clear b1 b2 b3
  go_loopw [19] (fun i wr => ∃ k : Nat, k ≤ 10 ∧ i = .int .i64 k ∧ (∀ j : Nat, j < k → op ≠ (j + 3 : Nat)) ∧ Below w.heap.size w wr) (fun i _ => 10 - (intOf i).toNat)
  case atStart => exact ⟨0, Nat.zero_le _, rfl, fun j hj => absurd hj (by omega), Below.refl _ _⟩
  case round =>
    obtain ⟨k, hk, rfl, hno, hb⟩ := hrel
    have HN := Lib.hid hno
    clear hno
    have hbs := hb.size
    by_cases hlt : k < 10
    · have hi := HI.out k hlt wr
      have HK := Lib.hid (show k + 3 = k + 3 from rfl)
      by_cases he : op = (k + 3 : Nat)
      · have HV := kindV_at k hlt
        unfold sgRow at hi
        rw [← he] at hi HV
        have q1 : (op == op) = true := by simp
        have q2 : (op != op) = false := by simp
        clear he HK HN
        by_cases h5 : lvl op = 5
        · have q3 : ((lvl op : Int) == 5) = true := by rw [beq_iff_eq]; omega
          rw [if_pos h5] at HV
          replace HV := Lib.hid HV
          clear h5
          go_wp2
          go_ret
          exact ⟨by rw [HV.out]; rfl, hb.alloc hbs _⟩
        · have q3 : ((lvl op : Int) == 5) = false := by rw [beq_eq_false_iff_ne]; omega
          rw [if_neg h5] at HV
          replace HV := Lib.hid HV
          clear h5
          go_wp2
          go_ret
          exact ⟨by rw [HV.out]; rfl, hb.alloc hbs _⟩
      · have q1 : (((k + 3 : Nat) : Int) == op) = false := by rw [beq_eq_false_iff_ne]; exact fun e => he e.symm
        have q2 : (((k + 3 : Nat) : Int) != op) = true := by rw [bne, q1]; rfl
        have HE := Lib.hid he
        unfold sgRow at hi
        clear he
        generalize hko : ((k + 3 : Nat) : Int) = o at *
        have HKO := Lib.hid hko
        clear hko
        generalize (lvl o : Int) = l at *
        generalize sgnS o = sg at *
        go_wp2
        go_roundw
        case rel => exact ⟨k + 1, by omega, by go_num, fun j hj => by
          by_cases e : j = k
          · subst e; rw [HKO.out]; exact HE.out
          · exact HN.out j (by omega), hb.alloc hbs _⟩
        case measure => simp only [intOf]; omega
    · obtain rfl : k = 10 := by omega
      have HV : kindV op = .iface 219 (.agg #[]) := by
        have h3 : ¬ (3 ≤ op ∧ op ≤ 12) := by
          rintro ⟨h1, h2⟩
          exact HN.out (op - 3).toNat (by omega) (by omega)
        unfold kindV
        have := HH.out
        rw [if_neg (by omega), if_neg (by omega), if_neg (by omega), if_neg (by omega), if_neg (by omega)]
      replace HV := Lib.hid HV
      go_wp2
      go_ret
      exact ⟨by rw [HV.out]; rfl, hb⟩
theorem kindOf_any (op : Int) (w : World) (T : Sgn w) :
    Calls Tryz.prog 96 #[.int .i64 op] w fun e w' => e = .returned (kindV op) ∧ Below w.heap.size w w' := by
  by_cases h : op = 1 ∨ op = 2 ∨ op = 13
  · exact (kindOf_first op w h).mono fun e w' ⟨h1, h2⟩ => ⟨h1, by subst h2; exact Below.refl _ _⟩
  · exact kindOf_rest op w h T

/-- A string that is not empty, in the walk's spellings. -/
theorem full_str {s : ByteArray} (h : s ≠ ⟨#[]⟩) : s.toList.isEmpty = false ∧ (!s.toList.isEmpty) = true := by
  have e1 : s.toList.isEmpty = false := by
    rw [ByteArray.toList_eq, List.isEmpty_eq_false_iff]
    intro e
    apply h
    cases s with | mk d =>
    have : d.toList = [] := e
    rw [Array.toList_eq_nil_iff] at this
    rw [this]
  exact ⟨e1, by rw [e1]; rfl⟩
theorem fitB_num (n : Int) (s : ByteArray) (len : Nat) : fitB 1 n s len = decide (0 ≤ n ∧ n ≤ 255 ∧ s.size = 0 ∧ len = 0) := by unfold fitB; rw [if_pos rfl]
theorem fitB_var (n : Int) (s : ByteArray) (len : Nat) : fitB 2 n s len = (decide (n = 0 ∧ len = 0) && nameB s) := by unfold fitB; rw [if_neg (by decide), if_pos rfl]
theorem fitB_call (n : Int) (s : ByteArray) (len : Nat) : fitB 13 n s len = (decide (n = 0 ∧ len ≤ 3) && nameB s) := by unfold fitB; rw [if_neg (by decide), if_neg (by decide), if_pos rfl]
theorem fitB_un {op : Int} (h : op = 11 ∨ op = 12) (n : Int) (s : ByteArray) (len : Nat) : fitB op n s len = decide (n = 0 ∧ s.size = 0 ∧ len = 1) := by unfold fitB; rw [if_neg (by omega), if_neg (by omega), if_neg (by omega), if_pos h]
theorem fitB_bin {op : Int} (h : 3 ≤ op ∧ op ≤ 10) (n : Int) (s : ByteArray) (len : Nat) : fitB op n s len = decide (n = 0 ∧ s.size = 0 ∧ len = 2) := by unfold fitB; rw [if_neg (by omega), if_neg (by omega), if_neg (by omega), if_neg (by omega), if_pos h]
theorem fitB_no {op : Int} (h : ¬ (1 ≤ op ∧ op ≤ 13)) (n : Int) (s : ByteArray) (len : Nat) : fitB op n s len = false := by unfold fitB; rw [if_neg (by omega), if_neg (by omega), if_neg (by omega), if_neg (by omega), if_neg (by omega)]
set_option maxHeartbeats 1000000 in
theorem fits_number (n : Int) (s : ByteArray) (op : Int) (A : Option Addr) (len cap : Nat) (w : World) (_ : len ≤ 9223372036854775807) :
    Calls Tryz.prog 316 #[.agg #[], .agg #[.int .i64 op, .int .i64 n, .string s, .slice A len cap]] w (BoolB (fitB 1 n s len) w) := by
  by_cases h0 : 0 ≤ n
  · by_cases h1 : n ≤ 255
    · by_cases h2 : s = ⟨#[]⟩
      · subst h2
        go_enter Tryz.func316, Tryz.ntmps316
        go_wp2
        go_ret
        exact ⟨ret_bool (by rw [fitB_num]; have hz : (⟨#[]⟩ : ByteArray).size = 0 := rfl; rw [Bool.eq_iff_iff, beq_iff_eq, decide_eq_true_eq]; omega), two_boxes _ _ _⟩
      · obtain ⟨e1, e2⟩ := full_str h2
        have HH := Lib.hid h2
        clear h2
        go_enter Tryz.func316, Tryz.ntmps316
        go_wp2
        go_ret
        exact ⟨ret_bool (by rw [fitB_num, eq_comm, decide_eq_false_iff_not]; exact fun h => HH.out (size_zero h.2.2.1)), two_boxes _ _ _⟩
    · have h1' : 255 < n := by omega
      go_enter Tryz.func316, Tryz.ntmps316
      go_wp2
      go_ret
      exact ⟨ret_bool (by rw [fitB_num, eq_comm, decide_eq_false_iff_not]; omega), two_boxes _ _ _⟩
  · have h0' : n < 0 := by omega
    go_enter Tryz.func316, Tryz.ntmps316
    go_wp2
    go_ret
    exact ⟨ret_bool (by rw [fitB_num, eq_comm, decide_eq_false_iff_not]; omega), two_boxes _ _ _⟩
set_option maxHeartbeats 1000000 in
theorem fits_variable (n : Int) (s : ByteArray) (op : Int) (A : Option Addr) (len cap : Nat) (w : World) (T : Tabs w) :
    Calls Tryz.prog 318 #[.agg #[], .agg #[.int .i64 op, .int .i64 n, .string s, .slice A len cap]] w (BoolB (fitB 2 n s len) w) := by
  have hb := two_boxes w (.cells #[] 147) (.cells #[.int .i64 op, .int .i64 n, .string s, .slice A len cap] 28)
  by_cases h0 : n = 0
  · subst h0
    have CN := Lib.hid (implIsName_any s _ (T.below hb))
    have HF := Lib.hid (fitB_var 0 s len)
    clear T
    generalize nameB s = b at *
    cases b
    all_goals
      go_enter Tryz.func318, Tryz.ntmps318
      go_wp2_with fail
      refine CN.out.mono ?_
      rintro e w' ⟨rfl, rfl⟩
      go_wp2
      go_ret
      exact ⟨ret_bool (by rw [HF.out, Bool.eq_iff_iff]; simp <;> omega), hb⟩
  · have b1 := beq_no h0
    have HH := Lib.hid h0
    clear h0 T
    go_enter Tryz.func318, Tryz.ntmps318
    go_wp2
    go_ret
    exact ⟨ret_bool (by rw [fitB_var]; simp [HH.out]), hb⟩
set_option maxHeartbeats 1000000 in
theorem fits_call (n : Int) (s : ByteArray) (op : Int) (A : Option Addr) (len cap : Nat) (w : World) (_ : len ≤ 9223372036854775807) (T : Tabs w) :
    Calls Tryz.prog 323 #[.agg #[], .agg #[.int .i64 op, .int .i64 n, .string s, .slice A len cap]] w (BoolB (fitB 13 n s len) w) := by
  have hb := two_boxes w (.cells #[] 154) (.cells #[.int .i64 op, .int .i64 n, .string s, .slice A len cap] 28)
  by_cases h0 : n = 0
  · subst h0
    have CN := Lib.hid (implIsName_any s _ (T.below hb))
    have HF := Lib.hid (fitB_call 0 s len)
    clear T
    generalize nameB s = b at *
    cases b
    all_goals
      go_enter Tryz.func323, Tryz.ntmps323
      go_wp2_with fail
      refine CN.out.mono ?_
      rintro e w' ⟨rfl, rfl⟩
      go_wp2
      go_ret
      exact ⟨ret_bool (by rw [HF.out, Bool.eq_iff_iff]; simp <;> omega), hb⟩
  · have b1 := beq_no h0
    have HH := Lib.hid h0
    clear h0 T
    go_enter Tryz.func323, Tryz.ntmps323
    go_wp2
    go_ret
    exact ⟨ret_bool (by rw [fitB_call]; simp [HH.out]), hb⟩
set_option maxHeartbeats 1000000 in
theorem fits_ahead (z l : Int) (sg : ByteArray) (n : Int) (s : ByteArray) (op : Int) (A : Option Addr) (len cap : Nat) (w : World) (_ : len ≤ 9223372036854775807) (ho : op = 11 ∨ op = 12) :
    Calls Tryz.prog 321 #[.agg #[.int .i64 z, .string sg, .int .i64 l], .agg #[.int .i64 op, .int .i64 n, .string s, .slice A len cap]] w (BoolB (fitB op n s len) w) := by
  have hb := two_boxes w (.cells #[.int .i64 z, .string sg, .int .i64 l] 153) (.cells #[.int .i64 op, .int .i64 n, .string s, .slice A len cap] 28)
  have HF := Lib.hid (fitB_un ho n s len)
  clear ho
  generalize fitB op n s len = b at *
  by_cases h0 : n = 0
  · subst h0
    by_cases h2 : s = ⟨#[]⟩
    · subst h2
      go_enter Tryz.func321, Tryz.ntmps321
      go_wp2
      go_ret
      exact ⟨ret_bool (by rw [HF.out]; have hz : (⟨#[]⟩ : ByteArray).size = 0 := rfl; rw [Bool.eq_iff_iff, beq_iff_eq, decide_eq_true_eq]; exact ⟨fun h => ⟨by trivial, hz, by omega⟩, fun h => by have := h.2.2; omega⟩), hb⟩
    · obtain ⟨e1, e2⟩ := full_str h2
      have HH := Lib.hid h2
      clear h2
      go_enter Tryz.func321, Tryz.ntmps321
      go_wp2
      go_ret
      exact ⟨ret_bool (by rw [HF.out, eq_comm, decide_eq_false_iff_not]; exact fun h => HH.out (size_zero h.2.1)), hb⟩
  · have b1 := beq_no h0
    have HH := Lib.hid h0
    clear h0
    go_enter Tryz.func321, Tryz.ntmps321
    go_wp2
    go_ret
    exact ⟨ret_bool (by rw [HF.out, eq_comm, decide_eq_false_iff_not]; exact fun h => HH.out h.1), hb⟩
set_option maxHeartbeats 1000000 in
theorem fits_between (z l : Int) (sg : ByteArray) (n : Int) (s : ByteArray) (op : Int) (A : Option Addr) (len cap : Nat) (w : World) (_ : len ≤ 9223372036854775807) (ho : 3 ≤ op ∧ op ≤ 10) :
    Calls Tryz.prog 320 #[.agg #[.int .i64 z, .string sg, .int .i64 l], .agg #[.int .i64 op, .int .i64 n, .string s, .slice A len cap]] w (BoolB (fitB op n s len) w) := by
  have hb := two_boxes w (.cells #[.int .i64 z, .string sg, .int .i64 l] 151) (.cells #[.int .i64 op, .int .i64 n, .string s, .slice A len cap] 28)
  have HF := Lib.hid (fitB_bin ho n s len)
  clear ho
  generalize fitB op n s len = b at *
  by_cases h0 : n = 0
  · subst h0
    by_cases h2 : s = ⟨#[]⟩
    · subst h2
      go_enter Tryz.func320, Tryz.ntmps320
      go_wp2
      go_ret
      exact ⟨ret_bool (by rw [HF.out]; have hz : (⟨#[]⟩ : ByteArray).size = 0 := rfl; rw [Bool.eq_iff_iff, beq_iff_eq, decide_eq_true_eq]; exact ⟨fun h => ⟨by trivial, hz, by omega⟩, fun h => by have := h.2.2; omega⟩), hb⟩
    · obtain ⟨e1, e2⟩ := full_str h2
      have HH := Lib.hid h2
      clear h2
      go_enter Tryz.func320, Tryz.ntmps320
      go_wp2
      go_ret
      exact ⟨ret_bool (by rw [HF.out, eq_comm, decide_eq_false_iff_not]; exact fun h => HH.out (size_zero h.2.1)), hb⟩
  · have b1 := beq_no h0
    have HH := Lib.hid h0
    clear h0
    go_enter Tryz.func320, Tryz.ntmps320
    go_wp2
    go_ret
    exact ⟨ret_bool (by rw [HF.out, eq_comm, decide_eq_false_iff_not]; exact fun h => HH.out h.1), hb⟩
set_option maxHeartbeats 1000000 in
theorem fits_strange (n : Int) (s : ByteArray) (op : Int) (A : Option Addr) (len cap : Nat) (w : World) (ho : ¬ (1 ≤ op ∧ op ≤ 13)) :
    Calls Tryz.prog 329 #[.agg #[], .agg #[.int .i64 op, .int .i64 n, .string s, .slice A len cap]] w (BoolB (fitB op n s len) w) := by
  rw [fitB_no ho]
  clear ho
  go_enter Tryz.func329, Tryz.ntmps329
  go_wp2
  go_ret
  exact ⟨rfl, two_boxes _ _ _⟩
theorem kindV_un {op : Int} (h : op = 11 ∨ op = 12) : kindV op = .iface 153 (.agg #[.int .i64 op, .string (sgnS op), .int .i64 (lvl op : Int)]) := by
  rcases h with rfl | rfl <;> rfl
theorem kindV_bin {op : Int} (h : 3 ≤ op ∧ op ≤ 10) : kindV op = .iface 151 (.agg #[.int .i64 op, .string (sgnS op), .int .i64 (lvl op : Int)]) := by
  have : op = 3 ∨ op = 4 ∨ op = 5 ∨ op = 6 ∨ op = 7 ∨ op = 8 ∨ op = 9 ∨ op = 10 := by omega
  rcases this with rfl | rfl | rfl | rfl | rfl | rfl | rfl | rfl <;> rfl
theorem kindV_no {op : Int} (h : ¬ (1 ≤ op ∧ op ≤ 13)) : kindV op = .iface 219 (.agg #[]) := by
  unfold kindV
  rw [if_neg (by omega), if_neg (by omega), if_neg (by omega), if_neg (by omega), if_neg (by omega)]
end Go.Proofs.YtljdbjfbcjigaaaGreatDoor
