/-
  The law that each word is of one kind: its walk.
-/
import Derived.Test.YtljoipgpkmdjbaaDoorListW
import Derived.Test.YtljoipgpkmdjbaaDoorCutLaw
import Derived.Test.YtljoipgpkmdjbaaDoorDrawW
import Derived.Test.YtljoipgpkmdjbaaDoorCK
import Derived.Test.YtljoipgpkmdjbaaDoorTwo
import Derived.Test.YtljoipgpkmdjbaaDoorB0
import Derived.Deep.RegionHeld3
import Derived.Deep.AppendLies
namespace Go.Proofs.YtljoipgpkmdjbaaDoor
open Go.RowKit
set_option maxRecDepth 100000

def kindsC : List Int := [1, 2, 3, 4, 0, 5, -1]
/-- What drawing words and a kind leaves. -/
def CountDraw (w : World) (e : Ending) (w' : World) : Prop := ∃ (B : Nat) (v : Value) (ws : List (Int × ByteArray)) (kind : Int), ws.length ≤ 20 ∧ (∀ x ∈ ws, x.2.size ≤ 300) ∧ e = .returned (.tuple #[v, .int .i64 kind]) ∧
  w'.ownsRow B 28 2 v ws.length (wordCells ws) ∧ Below w.heap.size w w'
set_option maxHeartbeats 1000000 in
theorem drawCountKind_any (A : Option Addr) (l : List UInt8) (cap : Nat) (w : World) (h : Bytes w w.heap.size A l) (hn : l.length ≤ cap) (hcap : cap ≤ 9223372036854775807) :
    Calls Tryd.prog 8 #[.slice A l.length cap] w (CountDraw w) := by
  have OP := Lib.hid (l30Open_any A l cap w h hn hcap)
  have LS := fun R W hR => Lib.hid (l1List_any R 0 W hR (by omega))
  have ON := fun R q W hR hq => Lib.hid (num_t R q kindsC W 3 (0, 0) hR hq (by decide) (by decide))
  clear h
  go_enter Tryd.func8, Tryd.ntmps8
  go_wp2_with fail
  refine OP.out.mono ?_
  rintro e w1 ⟨rfl, hR1, hb1⟩
  have LS1 := LS _ w1 hR1
  have hlt := hR1.lt
  clear OP LS hR1
  go_wp2_with fail
  refine LS1.out.mono ?_
  rintro e w2 ⟨v, ws, hl, hs, rfl, hO, hd⟩
  obtain ⟨q2, hq2, hR2⟩ := hd.1
  have ON2 := Lib.hid (ON _ q2 w2 hR2 (by omega)).out
  have HO := Lib.hid hO
  have HD := Lib.hid hd
  have HS := Lib.hid hs
  clear LS1 hO hd hR2 ON hs
  go_wp2_with fail
  refine ON2.out.mono ?_
  rintro e w3 ⟨s3, hs3, rfl, hd3⟩
  have HO3 := Lib.hid (own_keep HO.out (fun b h1 h2 => hd3.2.above b (by omega) h2))
  have hb3 := hb1.trans (HD.out.trans hd3).2.below
  clear ON2 HO HD hd3 hs3
  go_wp2
  go_ret2
  exact ⟨w1.heap.size, v, ws, s3, hl, HS.out, rfl, HO3.out, hb3⟩
/-- Words appended to words of the call's own, at a step of a region that draws its order. -/
theorem step_append_words {ops : Array Oper} {o : Oper} {a : Act} {w : World} {K : Act → World → Prop} {Q : Exit → Act → World → Prop} {E : Prop} (hgd : o.guard = none) (s x : Operand)
    (ho : o.op = .call { callee := .builtin .append, args := #[s, x], argTypes := #[23, 23] })
    (base base' n : Nat) (v u : Value) (xs : List Value) (ws : List (Int × ByteArray)) (hs : a.eval s = v) (hx : a.eval x = u)
    (hv : w.ownsRow base 28 2 v n xs) (hu : w.ownsRow base' 28 2 u ws.length (wordCells ws)) (hn : n + ws.length ≤ 100000) (hbase : base ≤ w.heap.size)
    (h : ∀ v' w', w'.ownsRow base 28 2 v' (n + ws.length) (xs ++ wordCells ws) → w.grownBy w' v.ownBlock → K (a.put o.dst v') w') :
    if Region.wanted o (yielded ops a.tmps) = true then Oper.wp Tryd.prog o a w K Q else E := by
  have hw : Region.wanted o (yielded ops a.tmps) = true := by simp [Region.wanted, hgd]
  rw [if_pos hw]
  obtain ⟨i0, hi, hz0, hz1, hz2⟩ := info_parts wordInfo
  rcases hu.2 with ⟨rfl, h0⟩ | ⟨g, cap, cur, rfl, hg1, hg2, hg3, hg4, hg5, hg6⟩
  · have hrun := run_append_owned_none (P := Tryd.prog) (w := w) base 23 o.type 28 i0 2 Tryd.underlying23 hi v n xs hv
    have hws : ws = [] := List.length_eq_zero_iff.1 h0
    subst hws
    have hk := h v w (by simpa [wordCells] using hv) ⟨rfl, rfl, rfl, Nat.le_refl _, fun _ _ _ => rfl⟩
    unfold Oper.wp
    simp [execOp, ho, resolve, invoke, builtin, hs, hx, hrun, Result.andThen]
    exact hk
  · refine wp_append_own w s x 23 ho base 28 i0 (.agg #[.int .i64 0, .string ⟨#[]⟩]) 2 24 Tryd.underlying23 hi hz0 hz1 hz2 rfl (by decide) v n xs hs hv
      ⟨g, 0, none⟩ ws.length cap (wordCells ws) hx (wordCells_length ws) (fun j y hy => ?_) (wordCells_one ws) (by unfold maxLen; omega) (by omega) hbase (fun v' w' h1 h2 _ => h v' w' h1 h2)
    have hj : j < (wordCells ws).length := (List.getElem?_eq_some_iff.1 hy).1
    have hadd : (⟨g, 0, none⟩ : Addr).add j = ⟨g, j, none⟩ := by
      unfold Addr.add
      by_cases e : j = 0
      · rw [if_pos e, e]
      · rw [if_neg e, Nat.zero_add]
    rw [hadd, hu.cellAt j (by rw [wordCells_length] at hj; exact hj)]
    exact hy
theorem cntK_app (ws : List (Int × ByteArray)) (x : Int × ByteArray) (kind : Int) : ∀ k, k ≤ ws.length → cntK (ws ++ [x]) kind k = cntK ws kind k
  | 0, _ => rfl
  | k + 1, hk => by
    show cntK (ws ++ [x]) kind k + _ = cntK ws kind k + _
    rw [cntK_app ws x kind k (by omega), List.getD_eq_getElem?_getD, List.getD_eq_getElem?_getD, List.getElem?_append_left (by omega)]
theorem cntK_snoc (ws : List (Int × ByteArray)) (x : Int × ByteArray) (kind : Int) : cntK (ws ++ [x]) kind (ws ++ [x]).length = cntK ws kind ws.length + if x.1 = kind then 1 else 0 := by
  rw [List.length_append]
  show cntK (ws ++ [x]) kind ws.length + (if ((ws ++ [x]).getD ws.length (0, ByteArray.empty)).1 = kind then 1 else 0) = _
  rw [cntK_app ws x kind _ (Nat.le_refl _), List.getD_eq_getElem?_getD, List.getElem?_append_right (Nat.le_refl _)]
  simp
theorem cntK_one (x : Int × ByteArray) (kind : Int) : cntK [x] kind 1 = if x.1 = kind then 1 else 0 := by
  have h := cntK_snoc [] x kind
  show cntK [x] kind 0 + _ = _
  show 0 + (if ([x].getD 0 (0, ByteArray.empty)).1 = kind then 1 else 0) = _
  simp
/-- How many of the kinds ahead of one a kind is. -/
def sumN (n : Int) (k : Nat) : Int := if 1 ≤ n ∧ n < k then 1 else 0
theorem sumN_step (n : Int) (k : Nat) (hk : 1 ≤ k) : sumN n (k + 1) = sumN n k + ((if n = (k : Int) then 1 else 0 : Nat) : Int) := by
  unfold sumN
  by_cases h : n = (k : Int)
  · rw [if_pos h, if_pos (by omega), if_neg (by omega)]; rfl
  · rw [if_neg h]
    by_cases h2 : 1 ≤ n ∧ n < k
    · rw [if_pos h2, if_pos (by omega)]; rfl
    · rw [if_neg h2, if_neg (by omega)]; rfl
theorem sumN_bd (n : Int) (k : Nat) : 0 ≤ sumN n k ∧ sumN n k ≤ 1 := by unfold sumN; split <;> omega
open Classical in
theorem valid_kind {n : Int} {s : ByteArray} (h : validB n s = true) : sumN n 5 = 1 := by
  have : n = 1 ∨ n = 2 ∨ n = 3 ∨ n = 4 := by
    unfold validB at h
    split at h
    · omega
    · split at h
      · omega
      · split at h
        · omega
        · split at h
          · omega
          · cases h
  unfold sumN
  rw [if_pos (by omega)]
/-- One word in a row of its own. -/
theorem words_one {w : World} (n : Int) (s : ByteArray) (b B : Nat) (hb : b < B) (h0 : w.cell? ⟨b, 0, none⟩ = some (.int .i64 n)) (h1 : w.cell? ⟨b, 1, none⟩ = some (.string s)) : Words w B (some ⟨b, 0, none⟩) [(n, s)] := by
  intro _
  refine ⟨b, 0, rfl, hb, fun k hk => ?_⟩
  obtain rfl : k = 0 := by simpa using hk
  exact ⟨h0, h1⟩
/-- A row of one word, out of its block. -/
theorem own_of_block {w : World} {g : Nat} {n : Int} {s : ByteArray} (h : w.heap[g]? = some (.cells #[.int .i64 n, .string s] 28 (0, 0))) :
    w.ownsRow g 28 2 (.slice (some ⟨g, 0, none⟩) 1 1) [((n, s) : Int × ByteArray)].length (wordCells [(n, s)]) :=
  ⟨rfl, .inr ⟨g, 1, #[.int .i64 n, .string s], rfl, Nat.le_refl _, h, Nat.le_refl _, by unfold maxLen; omega, rfl, rfl⟩⟩
end Go.Proofs.YtljoipgpkmdjbaaDoor
