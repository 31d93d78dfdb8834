/-
  Texts of expressions: the model's ExprText; words put behind a list by the program.
-/
import Derived.Test.YtoepehlndljkoaaDoorF7
import Derived.Maps.AppendAt
namespace Go.Proofs.YtoepehlndljkoaaDoor
open Go.RowKit Go.Maps
set_option maxRecDepth 100000

theorem callTo_valid {d : Nat} {ks : List E} (hk : ∀ k ∈ ks, formE d k = true) (i : Nat) : AllV (callTo ks i) := by
  refine allV_commas fun p hp => ?_
  obtain ⟨j, hj, rfl⟩ := List.getElem_of_mem hp
  have hj' : j < (ks.take i).length := by rw [wL_length] at hj; exact hj
  rw [wL_get 13 0 (ks.take i) j hj' hj]
  exact wE_valid d _ (hk _ (List.mem_of_mem_take (List.getElem_mem hj'))) _
theorem callTo_len {d : Nat} {ks : List E} (hk : ∀ k ∈ ks, formE d k = true) (i : Nat) : (callTo ks i).length ≤ 6 * sizeL ks := by
  have h1 := commas_bd (ks.take i) 0 (fun k hk' l => wE_bd d k (hk k (List.mem_of_mem_take hk')) l)
  have h2 := sizeL_take_le ks i
  show (commas (wL 13 0 (ks.take i))).length ≤ _
  omega
theorem call_tx_size {d : Nat} {s : ByteArray} {ks : List E} (hs : nameB s = true) (hk : ∀ k ∈ ks, formE d k = true) (hl : sizeL ks ≤ 1000000) (i : Nat) : (tx ((1, s) :: (3, lpS) :: callTo ks i)).size ≤ 40000000 := by
  have h1 := tx_size (AllV.cons (x := (1, s)) (valid_name hs) (AllV.cons (x := (3, lpS)) valid_lp (callTo_valid hk i)))
  have h2 := callTo_len hk i
  simp only [List.length_cons] at h1
  omega
theorem name_size {s : ByteArray} (h : nameB s = true) : s.size ≤ 4 := by
  unfold nameB at h
  simp only [Bool.and_eq_true, decide_eq_true_eq] at h
  exact h.1.2
theorem l2Text_any : ∀ (d : Nat) (e : E) (_ : formE d e = true) (need : Nat) (_ : need ≤ 6) (A : Option Addr) (cap : Nat) (w : World), RdS w w.heap.size e.kids A → sizeE e ≤ 1000000 →
    Calls Tryd.prog 16 #[exV e A cap, .int .i64 (need : Int)] w (StrB (tx (wE e need)) w)
  | 0, e, h, _, _, _, _, _, _, _ => by cases h
  | d + 1, e, h, need, hn, A, cap, w, hR, hl => by
    rcases form_cases h with ⟨n, rfl, h0, h1⟩ | ⟨s, rfl, hs⟩ | ⟨s, ks, rfl, hs, _, hk⟩ | ⟨op, x, rfl, ho, hx⟩ | ⟨op, x, y, rfl, ho, hx, hy⟩
    · obtain ⟨m, rfl⟩ : ∃ m : Nat, n = (m : Int) := ⟨n.toNat, by omega⟩
      exact l2Text_num m (by omega) need hn A cap w
    · exact l2Text_var s need hn A cap w
    · have hsl : sizeL ks ≤ 1000000 := by rw [sizeE_call] at hl; omega
      exact l2Text_call d s ks (name_size hs) hk need hn A cap w hR hsl (fun i _ => call_tx_size hs hk hsl i) (fun k hk need hn A cap w hr hl => l2Text_any d k hk need hn A cap w hr hl)
    · rw [sizeE_un] at hl
      exact l2Text_un d op ho x hx need A cap w hR (by omega) (fun k hk need hn A cap w hr hl => l2Text_any d k hk need hn A cap w hr hl)
    · rw [sizeE_bin] at hl
      exact l2Text_bin d op ho x y hx hy need A cap w hR (by omega) (fun k hk need hn A cap w hr hl => l2Text_any d k hk need hn A cap w hr hl)
set_option maxHeartbeats 1000000 in
/-- The model's ExprText. -/
theorem specExprText_any (e : E) (A : Option Addr) (cap : Nat) (w : World) (hR : RdS w w.heap.size e.kids A) (hl : bulkE e ≤ 1048576) :
    Calls Tryd.prog 6 #[exV e A cap] w (TextRet (textF e) w) := by
  obtain ⟨c0, c1, c2, c3, hlt, hb⟩ := box_cells w (.int .i64 e.op) (.int .i64 e.n) (.string e.name) (.slice A e.kids.length cap) 30
  have hr1 := (hR.below hb).more hb.size
  have CV := specExprValid_any e A cap _ hr1 hl
  have CT := fun W (h : Below w.heap.size w W) (hv : validE e = true) => Lib.hid (l2Text_any 6 e (validE_form hv) 1 (by omega) A cap W ((hR.below h).more h.size) (by have := validE_size hv; omega))
  unfold exV at CV CT ⊢
  have HT := Lib.hid (show textF e = if validE e = true then (tx (wE e 1), true) else (⟨#[]⟩, false) from rfl)
  clear hR hr1
  generalize textF e = tf at *
  generalize validE e = vv at *
  cases vv
  · have HT1 := Lib.hid (HT.out.trans (if_neg (by simp)))
    replace CV := Lib.hid CV
    clear CT HT
    go_enter Tryd.func6, Tryd.ntmps6
    go_wp2_with fail
    (with_reducible refine Calls.mono CV.out ?_)
    rintro ee w1 ⟨rfl, hb1⟩
    have hb2 := hb.trans (hb1.mono (Nat.le_of_lt hlt))
    go_wp2
    go_ret2
    rw [HT1.out]
    exact ⟨rfl, hb2⟩
  · have HT1 := Lib.hid (HT.out.trans (if_pos rfl))
    replace CV := Lib.hid CV
    clear HT
    go_enter Tryd.func6, Tryd.ntmps6
    go_wp2_with fail
    (with_reducible refine Calls.mono CV.out ?_)
    rintro ee w1 ⟨rfl, hb1⟩
    have k0 := (hb1.cell (p := ⟨w.heap.size, 0, none⟩) hlt).trans c0
    have k1 := (hb1.cell (p := ⟨w.heap.size, 1, none⟩) hlt).trans c1
    have k2 := (hb1.cell (p := ⟨w.heap.size, 2, none⟩) hlt).trans c2
    have k3 := (hb1.cell (p := ⟨w.heap.size, 3, none⟩) hlt).trans c3
    have hb2 := hb.trans (hb1.mono (Nat.le_of_lt hlt))
    have CT1 := Lib.hid (CT _ hb2 (by first | trivial | rfl)).out
    clear CT CV hb hb1
    go_wp2_with fail
    (with_reducible refine Calls.mono CT1.out ?_)
    rintro ee w3 ⟨rfl, hb4⟩
    have hb5 := hb2.trans (hb4.mono hb2.size)
    go_wp2
    go_ret2
    rw [HT1.out]
    exact ⟨rfl, hb5⟩

/-- A list of words in memory of the call's own. -/
def WRow (w : World) (base : Nat) (v : Value) (l : List W) : Prop := w.ownsRow base 54 2 v l.length (wordCells l)
/-- A list is put into; nothing else that was there turns. -/
structure Put (base : Nat) (v v' : Value) (w w' : World) : Prop where
  below : Below base w w'
  keep : ∀ k, k < w.heap.size → v.ownBlock ≠ some k → w'.heap[k]? = w.heap[k]?
  own : v'.ownBlock = v.ownBlock ∨ ∃ g, v'.ownBlock = some g ∧ w.heap.size ≤ g
theorem Put.trans {base : Nat} {v v1 v2 : Value} {a b c : World} (h : Put base v v1 a b) (k : Put base v1 v2 b c) : Put base v v2 a c := by
  refine ⟨h.below.trans k.below, fun i hi hne => ?_, ?_⟩
  · rw [k.keep i (Nat.lt_of_lt_of_le hi h.below.size) ?_]
    · exact h.keep i hi hne
    · rcases h.own with e | ⟨g, e, hg⟩
      · rw [e]; exact hne
      · rw [e]; intro e2; injection e2 with e2; omega
  · rcases k.own with e | ⟨g, e, hg⟩
    · rw [e]; rcases h.own with e' | h'
      · exact .inl e'
      · exact .inr h'
    · exact .inr ⟨g, e, Nat.le_trans h.below.size hg⟩
theorem Put.of_below {base : Nat} {v : Value} {a b : World} (h : Below a.heap.size a b) (hb : base ≤ a.heap.size) : Put base v v a b := ⟨h.mono hb, fun k hk _ => h.block k hk, .inl rfl⟩
theorem Put.cell {base : Nat} {v v' : Value} {a b : World} (h : Put base v v' a b) {k o : Nat} (hk : k < a.heap.size) (hne : v.ownBlock ≠ some k) : b.cell? ⟨k, o, none⟩ = a.cell? ⟨k, o, none⟩ := by
  have := h.keep k hk hne
  unfold World.cell?
  dsimp only
  rw [this]
/-- What putting words leaves. -/
def AddRet (base : Nat) (v : Value) (l : List W) (w : World) (e : Ending) (w' : World) : Prop := ∃ v', e = .returned v' ∧ WRow w' base v' l ∧ Put base v v' w w'
theorem WRow.free {w : World} {base : Nat} {v : Value} {l : List W} (h : WRow w base v l) {k : Nat} (hk : w.heap.size ≤ k) : v.ownBlock ≠ some k := by
  intro e
  have := (World.ownsRow.lt h k e).2
  omega
theorem WRow.slice {w : World} {base : Nat} {v : Value} {l : List W} (h : WRow w base v l) : ∃ A cap, v = .slice A l.length cap := by
  rcases h.2 with ⟨rfl, h0⟩ | ⟨g, cap, cur, rfl, _⟩
  · exact ⟨none, 0, by rw [h0]⟩
  · exact ⟨_, cap, rfl⟩
theorem new_word' (w : World) (z : Int) (t : ByteArray) : ∀ (j : Nat) u, [Value.int .i64 z, Value.string t][j]? = some u → (w.alloc (.cells #[.int .i64 z, .string t] 54)).cell? ((⟨w.heap.size, 0, none⟩ : Addr).add j) = some u := by
  intro j u hu
  match j, hu with
  | 0, hu =>
    have : (⟨w.heap.size, 0, none⟩ : Addr).add 0 = ⟨w.heap.size, 0, none⟩ := rfl
    rw [this, alloc_cell]
    exact hu
  | 1, hu =>
    have : (⟨w.heap.size, 0, none⟩ : Addr).add 1 = ⟨w.heap.size, 1, none⟩ := rfl
    rw [this, alloc_cell]
    exact hu
  | j + 2, hu => simp at hu
theorem wordOne' (z : Int) (t : ByteArray) : ∀ u ∈ [Value.int .i64 z, Value.string t], u.oneCell' = true := by
  intro u hu
  simp at hu
  rcases hu with rfl | rfl <;> rfl
theorem wordCells_snoc' : ∀ (l : List W) (x : W), wordCells (l ++ [x]) = wordCells l ++ [.int .i64 x.1, .string x.2]
  | [], _ => rfl
  | y :: l, x => by simp [wordCells, wordCells_snoc' l x]
/-- What an append of one word leaves. -/
theorem put_append {w : World} {base : Nat} {v v' : Value} {l : List W} {z : Int} {t : ByteArray} {w3 : World} (hW : WRow w base v l) (hb : base ≤ w.heap.size)
    (hown : w3.ownsRow base 54 2 v' (l.length + 1) (wordCells l ++ [.int .i64 z, .string t])) (hg : (w.alloc (.cells #[.int .i64 z, .string t] 54)).grownBy w3 v.ownBlock)
    (hat : v'.ownBlock = v.ownBlock ∨ v'.ownBlock = some (w.alloc (.cells #[.int .i64 z, .string t] 54)).heap.size) : WRow w3 base v' (l ++ [(z, t)]) ∧ Put base v v' w w3 := by
  have hal := (Below.refl w.heap.size w).alloc (Nat.le_refl _) (.cells #[.int .i64 z, .string t] 54)
  refine ⟨?_, ?_, ?_, ?_⟩
  · unfold WRow
    rw [wordCells_snoc', List.length_append]
    exact hown
  · exact (hal.mono hb).grown hg (Nat.le_trans hb hal.size) (fun k e => (World.ownsRow.lt hW k e).1)
  · intro k hk hne
    rw [hg.block k (Nat.lt_of_lt_of_le hk hal.size) (fun e => hne e.symm), hal.block k hk]
  · rcases hat with e | e
    · exact .inl e
    · exact .inr ⟨_, e, hal.size⟩

end Go.Proofs.YtoepehlndljkoaaDoor
