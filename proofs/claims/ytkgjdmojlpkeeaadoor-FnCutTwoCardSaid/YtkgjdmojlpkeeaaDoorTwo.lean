/-
  The law that two texts with a space between have the words of both: its walk.
-/
import Derived.Test.YtkgjdmojlpkeeaaDoorCutLaw
import Derived.Test.YtkgjdmojlpkeeaaDoorDraw5
import Derived.Test.YtkgjdmojlpkeeaaDoorWW
import Derived.Test.YtkgjdmojlpkeeaaDoorCutL2
import Derived.Laws.OwnMore
namespace Go.Proofs.YtkgjdmojlpkeeaaDoor
open Go.RowKit
set_option maxRecDepth 100000

theorem cut_joined (a b : ByteArray) : cutF (a ++ ⟨#[32]⟩ ++ b) 0 = both (cutF a 0) (cutF b 0) := by
  rw [cut_list, cut_list, cut_list, ByteArray.data_append, ByteArray.data_append, Array.toList_append, Array.toList_append]
  show cutL (a.data.toList ++ [32] ++ b.data.toList) = _
  rw [List.append_assoc]
  exact cutL_two _ _ (Nat.le_refl _) 32 _ (by decide)
theorem joined_size (a b : ByteArray) : (a ++ ⟨#[32]⟩ ++ b).size = a.size + b.size + 1 := by
  have e : (⟨#[32]⟩ : ByteArray).size = 1 := rfl
  rw [ByteArray.size_append, ByteArray.size_append]
  omega
theorem two_no {a b : ByteArray} {ws vs : List (Int × ByteArray)} {one two : Bool} (ha : cutRes a = (ws, one)) (hb : cutRes b = (vs, two))
    (h : 3000 < a.size + b.size + 1 ∨ 600 < ws.length + vs.length ∨ one = false ∨ two = false) : cutRes (a ++ ⟨#[32]⟩ ++ b) = ([], false) := by
  by_cases hs : 3000 < a.size + b.size + 1
  · exact cutRes_long (by rw [joined_size]; exact hs)
  · apply cutRes_many
    intro us hu
    rw [cut_joined] at hu
    cases hca : cutF a 0 with
    | none => rw [hca, both_none] at hu; cases hu
    | some x =>
      cases hcb : cutF b 0 with
      | none => rw [hca, hcb] at hu; cases hu
      | some y =>
        rw [hca, hcb] at hu
        have e : us = x ++ y := by injection hu with hu; exact hu.symm
        rw [e, List.length_append]
        cases one
        · have := (cutRes_off ha).2 (by omega) x hca
          omega
        · cases two
          · have := (cutRes_off hb).2 (by omega) y hcb
            omega
          · have h1 := (cutRes_inv ha).2.1
            have h2 := (cutRes_inv hb).2.1
            rw [hca] at h1
            rw [hcb] at h2
            injection h1 with h1
            injection h2 with h2
            subst h1; subst h2
            rcases h with h | h | h | h
            · omega
            · exact h
            · cases h
            · cases h
theorem two_yes {a b : ByteArray} {ws vs : List (Int × ByteArray)} (ha : cutRes a = (ws, true)) (hb : cutRes b = (vs, true))
    (hs : ¬ 3000 < a.size + b.size + 1) (hn : ¬ 600 < ws.length + vs.length) : cutRes (a ++ ⟨#[32]⟩ ++ b) = (ws ++ vs, true) := by
  refine cutRes_yes (by rw [joined_size]; omega) ?_ (by rw [List.length_append]; omega)
  rw [cut_joined, (cutRes_inv ha).2.1, (cutRes_inv hb).2.1]
  rfl
theorem wordCells_append : ∀ (a b : List (Int × ByteArray)), wordCells (a ++ b) = wordCells a ++ wordCells b
  | [], _ => rfl
  | x :: r, b => by
    show _ :: _ :: wordCells (r ++ b) = _ :: _ :: (wordCells r ++ wordCells b)
    rw [wordCells_append r b]
theorem wordCells_one : ∀ (ws : List (Int × ByteArray)), ∀ u ∈ wordCells ws, u.oneCell' = true
  | [], u, hu => by cases hu
  | x :: r, u, hu => by
    have h : u = .int .i64 x.1 ∨ u = .string x.2 ∨ u ∈ wordCells r := by simpa [wordCells] using hu
    rcases h with rfl | rfl | h
    · rfl
    · rfl
    · exact wordCells_one r u h
/-- Words appended to words of the call's own, nil or not, guarded or not. -/
theorem append_words {ops : Array Oper} {rest : List Oper} {o : Oper} {a : Act} {w : World} {Q : Exit → Act → World → Prop} (hw : Region.wanted o (yielded ops a.tmps) = true) (s x : Operand)
    (ho : o.op = .call { callee := .builtin .append, args := #[s, x], argTypes := #[26, 26] })
    (base base' n : Nat) (v u : Value) (xs : List Value) (ws : List (Int × ByteArray)) (hs : a.eval s = v) (hx : a.eval x = u)
    (hv : w.ownsRow base 37 2 v n xs) (hu : w.ownsRow base' 37 2 u ws.length (wordCells ws)) (hn : n + ws.length ≤ 100000) (hbase : base ≤ w.heap.size)
    (h : ∀ v' w', w'.ownsRow base 37 2 v' (n + ws.length) (xs ++ wordCells ws) → Below base w w' → wpList Tryd.prog ops Q rest (a.put o.dst v') w') : wpList Tryd.prog ops Q (o :: rest) a w := by
  obtain ⟨i0, hi, hz0, hz1, hz2⟩ := info_parts wordInfo
  refine wpList_step fun K hK => ?_
  rw [if_pos hw]
  rcases hu.2 with ⟨rfl, h0⟩ | ⟨g, cap, cur, rfl, hg1, hg2, hg3, hg4, hg5, hg6⟩
  · have hrun := run_append_owned_none (P := Tryd.prog) (w := w) base 26 o.type 37 i0 2 Tryd.underlying26 hi v n xs hv
    have hws : ws = [] := List.length_eq_zero_iff.1 h0
    subst hws
    have hk := hK _ _ (h v w (by simpa [wordCells] using hv) (Below.refl _ _))
    unfold Oper.wp
    simp [execOp, ho, resolve, invoke, builtin, hs, hx, hrun, Result.andThen]
    exact hk
  · refine wp_append_own w s x 26 ho base 37 i0 (.agg #[.int .i64 0, .string ⟨#[]⟩]) 2 24 Tryd.underlying26 hi hz0 hz1 hz2 rfl (by decide) v n xs hs hv
      ⟨g, 0, none⟩ ws.length cap (wordCells ws) hx (wordCells_length ws) (fun j y hy => ?_) (wordCells_one ws) (by unfold maxLen; omega) (by omega) hbase (fun v' w' h1 h2 _ => hK _ _ (h v' w' h1 ((Below.refl base w).grown h2 hbase (fun k e => (hv.lt k e).1))))
    have hj : j < (wordCells ws).length := (List.getElem?_eq_some_iff.1 hy).1
    have hadd : (⟨g, 0, none⟩ : Addr).add j = ⟨g, j, none⟩ := by
      unfold Addr.add
      by_cases e : j = 0
      · rw [if_pos e, e]
      · rw [if_neg e, Nat.zero_add]
    rw [hadd, hu.cellAt j (by rw [wordCells_length] at hj; exact hj)]
    exact hy

set_option maxHeartbeats 6000000 in
theorem fnCutTwo_walk (A : Option Addr) (l : List UInt8) (cap : Nat) (A' : Option Addr) (l' : List UInt8) (cap' : Nat) (w : World) (hB : Bytes w w.heap.size A l) (hn : l.length ≤ cap) (hcap : cap ≤ 9223372036854775807)
    (hB' : Bytes w w.heap.size A' l') (hn' : l'.length ≤ cap') (hcap' : cap' ≤ 9223372036854775807) (T : Tabs w) (N : NTabs w) :
    Calls Tryd.prog 4 #[.slice A l.length cap, .slice A' l'.length cap'] w fun e w' => e = .returned (.bool true) ∧ Below w.heap.size w w' := by
  by_cases hl : 1048576 < l.length
  · clear hB hB' T N
    go_enter Tryd.func4, Tryd.ntmps4
    go_wp2
    go_ret
    exact ⟨rfl, Below.refl _ _⟩
  by_cases hl2 : 1048576 < l'.length
  · clear hB hB' T N
    go_enter Tryd.func4, Tryd.ntmps4
    go_wp2
    go_ret
    exact ⟨rfl, Below.refl _ _⟩
  have hla : l.length ≤ 1048576 := by omega
  have hlb : l'.length ≤ 1048576 := by omega
  have DC := Lib.hid (drawCutWords_any A l cap w hB hn hcap)
  have DP := fun W h => Lib.hid (drawPlainText_any A' l' cap' W h hn' hcap')
  clear hl hl2 hB
  have SC := fun s hs W => Lib.hid (specCutWords_any s W hs)
  have IC := fun s hs W h h' => Lib.hid (implCutWords_any s W hs h h')
  go_enter Tryd.func4, Tryd.ntmps4
  go_wp2_with fail
  refine DC.out.mono ?_
  rintro e w1 ⟨a, ha, rfl, hb1⟩
  clear DC
  have hB1 : Bytes w1 w1.heap.size A' l' := by
    intro hne
    obtain ⟨b, o, e, hlt, hc⟩ := hB'.below hb1 hne
    exact ⟨b, o, e, Nat.lt_of_lt_of_le hlt hb1.size, hc⟩
  have DP1 := DP w1 hB1
  clear DP hB1 hB'
  go_wp2_with fail
  refine DP1.out.mono ?_
  rintro e w2 ⟨b, hb, rfl, hb2⟩
  clear DP1
  have hb02 := hb1.trans (hb2.mono hb1.size)
  have T2 := T.below hb02
  have N2 := N.below hb02
  clear hb1 hb2
  have SCa := SC a (by omega)
  have ICa := IC a (by omega)
  have SCb := SC b (by omega)
  have ICb := IC b (by omega)
  clear SC
  have ICc := IC (a ++ ⟨#[32]⟩ ++ b) (by rw [joined_size]; omega)
  clear IC
  cases hca : cutRes a with
  | mk ws one =>
  cases hcb : cutRes b with
  | mk vs two =>
  have hla' := cutRes_len a
  have hlb' := cutRes_len b
  rw [hca] at hla' ICa SCa
  rw [hcb] at hlb' ICb SCb
  have hws : ws.length ≤ 600 := hla'
  have hvs : vs.length ≤ 600 := hlb'
  clear hla' hlb'
  have eo1 : (one == one) = true := by simp
  have eo2 : (one != one) = false := by simp
  have et1 : (two == two) = true := by simp
  have et2 : (two != two) = false := by simp
  replace hca := Lib.hid hca
  replace hcb := Lib.hid hcb
  go_wp2_with fail
  refine (ICa w2 T2 N2).out.mono ?_
  rintro e w3 ⟨⟨v3, rfl, hO3⟩, hb3⟩
  obtain ⟨A3, cap3, rfl, hW3⟩ := words_own hO3
  replace hO3 := Lib.hid hO3
  clear ICa
  go_wp2_with fail
  refine (ICb w3 (T2.below hb3) (N2.below hb3)).out.mono ?_
  rintro e w4 ⟨⟨v4, rfl, hO4⟩, hb4⟩
  obtain ⟨A4, cap4, rfl, hW4⟩ := words_own hO4
  replace hO4 := Lib.hid hO4
  have hb24 := hb3.trans (hb4.mono hb3.size)
  have hW34 := (hW3.below hb4).more hb4.size
  replace hO3 := Lib.hid (own_below hO3.out hb4)
  clear ICb hW3 hb3
  go_wp2_with fail
  refine (SCa w4).out.mono ?_
  rintro e w5 ⟨⟨v5, rfl, hO5⟩, hb5⟩
  obtain ⟨A5, cap5, rfl, hW5⟩ := words_own hO5
  have hb25 := hb24.trans (hb5.mono hb24.size)
  have hW35 := (hW34.below hb5).more hb5.size
  have hW45 := (hW4.below hb5).more hb5.size
  replace hO3 := Lib.hid (own_below hO3.out hb5)
  replace hO4 := Lib.hid (own_below hO4.out hb5)
  clear SCa hO5 hW34 hW4 hb4 hb24
  go_wp2_with fail
  refine (SCb w5).out.mono ?_
  rintro e w6 ⟨⟨v6, rfl, hO6⟩, hb6⟩
  obtain ⟨A6, cap6, rfl, hW6⟩ := words_own hO6
  have hb26 := hb25.trans (hb6.mono hb25.size)
  have hW36 := (hW35.below hb6).more hb6.size
  have hW46 := (hW45.below hb6).more hb6.size
  have hW56 := (hW5.below hb6).more hb6.size
  replace hO3 := Lib.hid (own_below hO3.out hb6)
  replace hO4 := Lib.hid (own_below hO4.out hb6)
  have WW := Lib.hid (wwWords_same A3 ws cap3 A5 cap5 w6 hW36 hW56 (by omega))
  clear SCb hO6 hW35 hW45 hW5 hb5 hb25 hW36 hW56
  go_wp2_with fail
  refine WW.out.mono ?_
  rintro e w7 ⟨rfl, hb7⟩
  have hb27 := hb26.trans (hb7.mono hb26.size)
  have hW47 := (hW46.below hb7).more hb7.size
  have hW67 := (hW6.below hb7).more hb7.size
  replace hO3 := Lib.hid (own_below hO3.out hb7)
  replace hO4 := Lib.hid (own_below hO4.out hb7)
  have WW := Lib.hid (wwWords_same A4 vs cap4 A6 cap6 w7 hW47 hW67 (by omega))
  clear hW46 hW6 hb6 hb26 hW47 hW67
  go_wp2_with fail
  refine WW.out.mono ?_
  rintro e w8 ⟨rfl, hb8⟩
  have hb28 := hb27.trans (hb8.mono hb27.size)
  replace hO3 := Lib.hid (own_below hO3.out hb8)
  replace hO4 := Lib.hid (own_below hO4.out hb8)
  clear WW hb7 hb27 hb8
  have hb08 := hb02.trans (hb28.mono hb02.size)
  have T8 := T.below hb08
  have N8 := N.below hb08
  clear T2 N2 hb28 hb02
  by_cases hbad : 3000 < a.size + b.size + 1 ∨ 600 < ws.length + vs.length ∨ one = false ∨ two = false
  · rw [two_no hca.out hcb.out hbad] at ICc
    clear hO3 hO4 hca hcb
    go_wp2_with fail
    refine (ICc w8 T8 N8).out.mono ?_
    rintro e w9 ⟨⟨v9, rfl, hO9⟩, hb9⟩
    have hb09 := hb08.trans (hb9.mono hb08.size)
    clear ICc hO9 hb9 hb08 T8 N8
    by_cases h1 : 3000 < a.size + b.size + 1
    · clear hbad
      go_wp2
      go_ret
      exact ⟨rfl, hb09⟩
    · by_cases h2 : 600 < ws.length + vs.length
      · clear hbad
        go_wp2
        go_ret
        exact ⟨rfl, hb09⟩
      · have h3 : one = false ∨ two = false := by
          rcases hbad with h | h | h
          · exact absurd h h1
          · exact absurd h h2
          · exact h
        clear hbad eo1 eo2 et1 et2
        cases one
        · clear h3
          go_wp2
          go_ret
          exact ⟨rfl, hb09⟩
        · cases two
          · clear h3
            go_wp2
            go_ret
            exact ⟨rfl, hb09⟩
          · exfalso
            rcases h3 with h | h <;> cases h
  · have h1 : ¬ 3000 < a.size + b.size + 1 := fun h => hbad (.inl h)
    have h2 : ¬ 600 < ws.length + vs.length := fun h => hbad (.inr (.inl h))
    have ho : one = true := by cases one; exact absurd (.inr (.inr (.inl rfl))) hbad; rfl
    have ht : two = true := by cases two; exact absurd (.inr (.inr (.inr rfl))) hbad; rfl
    subst ho
    subst ht
    rw [two_yes hca.out hcb.out h1 h2] at ICc
    obtain ⟨us, hus⟩ : ∃ us, us = ws ++ vs := ⟨_, rfl⟩
    have hul : us.length ≤ 600 := by rw [hus, List.length_append]; omega
    have HL := Lib.hid (show us.length = ws.length + vs.length by rw [hus, List.length_append])
    have HC := Lib.hid (show wordCells us = wordCells ws ++ wordCells vs by rw [hus, wordCells_append])
    rw [← hus] at ICc
    clear hbad hca hcb eo1 eo2 et1 et2 hus
    go_wp2_with fail
    refine (ICc w8 T8 N8).out.mono ?_
    rintro e w9 ⟨⟨v9, rfl, hO9⟩, hb9⟩
    replace hO3 := Lib.hid (own_below hO3.out hb9)
    replace hO4 := Lib.hid (own_below hO4.out hb9)
    have hb09 := Lib.hid (hb08.trans (hb9.mono hb08.size))
    obtain ⟨A9, cap9, rfl, hW9⟩ := words_own hO9
    replace hW9 := Lib.hid hW9
    clear ICc hO9 hb9 hb08 T8 N8
    have hEm := Lib.hid (empty_own w9 w9.heap.size (Nat.le_refl _))
    have hbE : Below w9.heap.size w9 (w9.alloc (.cells #[] 37)) := (Below.refl _ _).alloc (Nat.le_refl _) _
    replace hO3 := Lib.hid (own_below hO3.out hbE)
    replace hbE := Lib.hid hbE
    have hn1 : 0 + ws.length ≤ 100000 := by omega
    have hn2 : ws.length + vs.length ≤ 100000 := by omega
    go_wp2_with (first
      | (at_builtin; refine append_words rfl _ _ rfl w9.heap.size _ 0 _ _ [] ws rfl rfl hEm.out hO3.out hn1 hbE.out.size ?_; intro v10 w10 hown10 hb10; rw [Nat.zero_add, List.nil_append] at hown10; replace hown10 := Lib.hid hown10; replace hb10 := Lib.hid (hbE.out.trans hb10); have hO10 := Lib.hid (own_below hO4.out hb10.out))
      | (at_builtin; refine append_words rfl _ _ rfl w9.heap.size _ ws.length _ _ (wordCells ws) vs rfl rfl hown10.out hO10.out hn2 hb10.out.size ?_; intro v11 w11 hown11 hb11; rw [← HL.out, ← HC.out] at hown11; obtain ⟨A11, cap11, rfl, hW11⟩ := words_own hown11; replace hb11 := Lib.hid (hb10.out.trans hb11); replace hW11 := Lib.hid hW11; clear hown11))
    have WW := Lib.hid (wwWords_same A9 us cap9 A11 cap11 w11 ((hW9.out.below hb11.out).more hb11.out.size) hW11.out (by omega))
    refine WW.out.mono ?_
    rintro e w12 ⟨rfl, hb12⟩
    have hb011 := hb09.out.trans (hb11.out.mono hb09.out.size)
    have hb012 := hb011.trans (hb12.mono hb011.size)
    clear WW hb12 hb011
    go_wp2
    go_ret
    exact ⟨rfl, hb012⟩
end Go.Proofs.YtkgjdmojlpkeeaaDoor
