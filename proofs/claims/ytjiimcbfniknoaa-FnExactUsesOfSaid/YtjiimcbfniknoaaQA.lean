/-
  UsesOf of the model: a number put into an ascending row.
-/
import Derived.Test.YtjiimcbfniknoaaPZ
import Derived.Deep.AppendLies
namespace Go.Proofs.Ytjiimcbfniknoaa
open Go.RowKit
set_option maxRecDepth 100000

theorem ints_one (l : List Int) : ∀ u ∈ iCs l, u.oneCell' = true := by
  intro u hu
  obtain ⟨x, _, rfl⟩ := List.mem_map.1 hu
  rfl
theorem news_sub {w : World} {l m : List Int} {b o i : Nat} (h : ∀ j, (hj : j < l.length) → w.cell? ⟨b, o + j, none⟩ = some (.int .i64 l[j])) (hm : ∀ j (hj : j < m.length), ∃ h : i + j < l.length, l[i + j] = m[j]) :
    ∀ j u, (iCs m)[j]? = some u → w.cell? ((⟨b, o + i, none⟩ : Addr).add j) = some u := by
  intro j u hu
  have hj : j < m.length := by have := (List.getElem?_eq_some_iff.1 hu).1; rw [iCs_len] at this; exact this
  obtain ⟨h1, h2⟩ := hm j hj
  have hadd : (⟨b, o + i, none⟩ : Addr).add j = ⟨b, o + (i + j), none⟩ := by
    unfold Addr.add
    by_cases e : j = 0
    · subst e; simp
    · simp [e, Nat.add_assoc]
  rw [hadd, h (i + j) h1, h2]
  unfold iCs at hu
  rw [List.getElem?_map, List.getElem?_eq_getElem hj] at hu
  exact hu
theorem news_take {w : World} {l : List Int} {b k : Nat} (h : ∀ j, (hj : j < l.length) → w.cell? ⟨b, 0 + j, none⟩ = some (.int .i64 l[j])) : ∀ j u, (iCs (l.take k))[j]? = some u → w.cell? ((⟨b, 0, none⟩ : Addr).add j) = some u :=
  news_sub (i := 0) h fun j hj => by
    rw [List.length_take] at hj
    exact ⟨by omega, by simp⟩
theorem news_drop {w : World} {l : List Int} {b k : Nat} (h : ∀ j, (hj : j < l.length) → w.cell? ⟨b, 0 + j, none⟩ = some (.int .i64 l[j])) (A : Addr) (hA : A = ⟨b, k, none⟩ ∨ l.length ≤ k) : ∀ j u, (iCs (l.drop k))[j]? = some u → w.cell? (A.add j) = some u := by
  rcases hA with rfl | hk
  · have := news_sub (i := k) (m := l.drop k) h fun j hj => by
      rw [List.length_drop] at hj
      exact ⟨by omega, by simp⟩
    rw [Nat.zero_add] at this
    exact this
  · intro j u hu
    rw [List.drop_eq_nil_of_le hk] at hu
    simp [iCs] at hu
/-- A row of numbers that the call owns, no nil. -/
def OwnS (base : Nat) (w : World) (l : List Int) (v : Value) : Prop := OwnN base w l v ∧ v ≠ .slice none 0 0
theorem insU_row (l : List Int) (n : Int) (k : Nat) (hk : k ≤ l.length) (e : insU l n = l.take k ++ n :: l.drop k) {base m : Nat} {w : World} {v : Value} (hm : m = l.length - k) (h : w.ownsRow base 3 1 v (0 + k + 1 + m) (([] ++ iCs (l.take k)) ++ iCs [n] ++ iCs (l.drop k))) (hv : v ≠ .slice none 0 0) : OwnS base w (insU l n) v := by
  subst hm
  refine ⟨?_, hv⟩
  unfold OwnN
  have e1 : (insU l n).length = 0 + k + 1 + (l.length - k) := by rw [e]; simp; omega
  have e2 : iCs (insU l n) = ([] ++ iCs (l.take k)) ++ iCs [n] ++ iCs (l.drop k) := by rw [e, List.nil_append, ← iCs_app, ← iCs_app, List.append_assoc]; rfl
  rw [e1, e2]
  exact h
theorem step_append_ints {ops : Array Oper} {o : Oper} {a : Act} {w : World} {K : Act → World → Prop} {Q : Exit → Act → World → Prop} {E : Prop} (hgd : o.guard = none) (s x : Operand)
    (ho : o.op = .call { callee := .builtin .append, args := #[s, x], argTypes := #[22, 22] })
    (base n m c : Nat) (v : Value) (xs : List Value) (ad : Addr) (news : List Int) (hs : a.eval s = v) (hx : a.eval x = .slice (some ad) m c)
    (hv : w.ownsRow base 3 1 v n xs) (hm : news.length = m) (hnews : ∀ j u, (iCs news)[j]? = some u → w.cell? (ad.add j) = some u) (hn : n + m ≤ 10000000) (hbase : base ≤ w.heap.size)
    (h : ∀ v' w', w'.ownsRow base 3 1 v' (n + m) (xs ++ iCs news) → w.grownBy w' v.ownBlock → (v' = .slice none 0 0 ↔ v = .slice none 0 0 ∧ m = 0) → K (a.put o.dst v') w') :
    if Region.wanted o (yielded ops a.tmps) = true then Oper.wp Try.prog o a w K Q else E := by
  have hw : Region.wanted o (yielded ops a.tmps) = true := by simp [Region.wanted, hgd]
  rw [if_pos hw]
  obtain ⟨i0, hi, hz0, hz1, hz2⟩ := info_parts uintInfo
  exact wp_append_own w s x 22 ho base 3 i0 (.int .i64 0) 1 8 Try.underlying22 hi hz0 hz1 hz2 rfl (by decide) v n xs hs hv ad m c (iCs news) hx (by rw [iCs_len, hm, Nat.mul_one]) hnews (ints_one news) (by unfold maxLen; omega) (by omega) hbase h
theorem OwnS.row {base : Nat} {w : World} {l : List Int} {v : Value} (h : OwnS base w l v) : ∃ g cap, v = .slice (some ⟨g, 0, none⟩) l.length cap ∧ l.length ≤ cap ∧ ∀ B, w.heap.size ≤ B → NumS w (Lt B) l (some ⟨g, 0, none⟩) ∧ g < B := by
  obtain ⟨⟨h0, h1⟩, hv⟩ := h
  rcases h1 with ⟨e, _⟩ | ⟨g, cap, cur, rfl, r⟩
  · exact absurd e hv
  · refine ⟨g, cap, rfl, r.2.2.1, fun B hB => ?_⟩
    have ho : OwnN base w l (.slice (some ⟨g, 0, none⟩) l.length cap) := ⟨h0, .inr ⟨g, cap, cur, rfl, r⟩⟩
    have hg := (World.ownsRow.lt ho g rfl).2
    obtain ⟨A, c, e, hR⟩ := ho.slice
    cases e
    exact ⟨hR.lt hB, by omega⟩
set_option maxHeartbeats 4000000 in
theorem l7Insert_any (base : Nat) (l : List Int) (hn : l.length ≤ 1048576) (v : Value) (n : Int) (w : World) (hown : OwnS base w l v) (hbase : base ≤ w.heap.size) :
    Calls Try.prog 27 #[v, .int .i64 n] w fun e w' => (∃ v', e = .returned v' ∧ OwnS base w' (insU l n) v') ∧ Below w.heap.size w w' := by
  obtain ⟨b, cap, rfl, hcap, hR0⟩ := hown.row
  have HR := Lib.hid (hR0 w.heap.size (Nat.le_refl _)).1
  have HO := Lib.hid hown
  obtain ⟨i0, hi, hz0, hz1, hz2⟩ := info_parts uintInfo
  clear hR0 hown
  have hb1 := (Below.refl w.heap.size w).alloc (Nat.le_refl _) (.cells #[] 3)
  have hbs1 := hb1.size
  have HE := Lib.hid (show (w.alloc (.cells #[] 3)).ownsRow w.heap.size 3 1 (.slice (some ⟨w.heap.size, 0, none⟩) 0 0) 0 [] from ownN_empty w.heap.size w (Nat.le_refl _))
  have HC := Lib.hid (fun (W : World) (hb : Below w.heap.size w W) => show ∀ j, (hj : j < l.length) → W.cell? ⟨b, 0 + j, none⟩ = some (.int .i64 l[j]) from fun j hj => by
    obtain ⟨b', o', e, hB, c0⟩ := (HR.out.on hb hb.size).at_ hj
    cases e
    exact c0)
  go_enter Try.func27, Try.ntmps27
  go_wp2
  go_loopw [5] (fun i wr => ∃ (k : Nat), k ≤ l.length ∧ i = .int .i64 k ∧ wr = w ∧ (∀ j, (h : j < l.length) → j < k → l[j] < n)) (fun i _ => l.length - (intOf i).toNat)
  case atStart => exact ⟨0, Nat.zero_le _, rfl, rfl, fun j _ h => absurd h (by omega)⟩
  case round =>
    obtain ⟨k, hk, rfl, rfl, hall⟩ := hrel
    have HA := Lib.hid hall
    clear hall
    by_cases hlt : k < l.length
    · have c0 := HC.out wr (Below.refl _ _) k hlt
      rw [Nat.zero_add] at c0
      by_cases h1 : l[k] < n
      · have HL := Lib.hid h1
        generalize hv : l[k] = y at *
        have HV := Lib.hid hv
        clear hv
        go_wp2
        go_roundw
        case rel => exact ⟨k + 1, by omega, by go_num, trivial, fun j hj hjk => by
          by_cases e : j = k
          · subst e; rw [HV.out]; exact HL.out
          · exact HA.out j hj (by omega)⟩
        case measure => simp only [intOf]; omega
      · by_cases h2 : l[k] = n
        · have e := Lib.hid (insU_has l n k hlt HA.out h2)
          generalize hv : l[k] = y at *
          clear hv
          subst h2
          have q1 : ¬ (y < y) := by omega
          go_wp2
          go_ret
          exact ⟨⟨_, rfl, by rw [e.out]; exact HO.out⟩, Below.refl _ _⟩
        · have HI := Lib.hid (insU_at l n k hk HA.out (fun h => by have : l[k] = l[k] := rfl; omega))
          generalize hv : l[k] = y at *
          clear hv
          have q1 : (y == n) = false := by simpa using h2
          have hbk : k ≤ 1048576 := by omega
          have N1 := Lib.hid (news_take (k := k) (HC.out _ hb1))
          have L1 : (l.take k).length = k := by rw [List.length_take]; omega
          have HN2 := Lib.hid (fun (W : World) (hb : Below wr.heap.size wr W) => news_drop (k := k) (HC.out W hb) ⟨b, k, none⟩ (.inl rfl))
          have hck2 : k ≤ cap := by omega
          have hck : ¬ cap = k := by omega
          clear HR HC
          go_wp2_with (at_builtin; refine wpList_append_own _ rfl _ _ 22 rfl wr.heap.size 3 i0 (.int .i64 0) 1 8 Try.underlying22 hi hz0 hz1 hz2 rfl (by decide) _ 0 [] rfl HE.out ⟨b, 0, none⟩ k cap (iCs (l.take k)) rfl (by rw [iCs_len, L1, Nat.mul_one]) N1.out (ints_one _) (by unfold maxLen; omega) (by omega) hbs1 ?_; intro v2 w2 hown2 hgrow2 hnil2; have hb2 := hb1.grown hgrow2 hbs1 (fun j e => (HE.out.lt j e).1); have HO2 := Lib.hid hown2; have HN := Lib.hid (show v2 ≠ .slice none 0 0 from fun e => by cases (hnil2.1 e).1); clear hown2 hgrow2 hnil2)
          have hbd := hb2.drew
          have hb3 := hbd.alloc hbd.size (.cells #[.int .i64 n] 3)
          have hbs3 := hb3.size
          have HO3 := Lib.hid (show (w2.drew.alloc (.cells #[.int .i64 n] 3)).ownsRow wr.heap.size 3 1 v2 (0 + k) ([] ++ iCs (l.take k)) from HO2.out.drew.alloc _)
          have NW := Lib.hid (show ∀ j u, (iCs [n])[j]? = some u → (w2.drew.alloc (.cells #[.int .i64 n] 3)).cell? ((⟨w2.drew.heap.size, 0, none⟩ : Addr).add j) = some u from new_int w2.drew n 3)
          have L2 : (l.drop k).length = l.length - k := List.length_drop
          clear HO2 hb1 hbs1 HE N1
          go_wp2_with fail
          go_region_law
            (first
              | ((refine step_append_ints rfl _ _ rfl wr.heap.size (0 + k) 1 1 v2 _ ⟨w2.drew.heap.size, 0, none⟩ [n] rfl rfl HO3.out rfl NW.out (by omega) hbs3 ?_); intro v4 w4 hown4 hg4 hnil4; have hb4 := hb3.grown hg4 hbs3 (fun j e => (HO3.out.lt j e).1); have HN4 := Lib.hid (show v4 ≠ .slice none 0 0 from fun e => HN.out (hnil4.1 e).1); have HO4 := Lib.hid hown4; clear hown4 hg4 hnil4)
              | ((refine step_append_ints rfl _ _ rfl wr.heap.size (0 + k + 1) _ _ v4 _ ⟨b, k, none⟩ (l.drop k) rfl rfl HO4.out (by omega) (HN2.out _ hb4) (by omega) hb4.size ?_); intro v5 w5 hown5 hg5 hnil5; have hb5 := hb4.grown hg5 hb4.size (fun j e => (HO4.out.lt j e).1); have HN5 := Lib.hid (show v5 ≠ .slice none 0 0 from fun e => HN4.out (hnil5.1 e).1); have HO5 := Lib.hid hown5; clear hown5 hg5 hnil5))
          all_goals
            have HF := Lib.hid (insU_row l n k hk HI.out (by omega) HO5.out HN5.out)
            clear HO3 HO4 HO5 NW
            go_wp2_with fail
            go_ret
            exact ⟨⟨_, rfl, HF.out.1.base hbase, HF.out.2⟩, hb5⟩
    · have hge : l.length ≤ k := by omega
      have HI := Lib.hid (insU_at l n k hk HA.out (fun h => absurd h (by omega)))
      clear hlt
      by_cases hck : cap = k
      · subst hck
        have hbk : cap ≤ 1048576 := by omega
        have N1 := Lib.hid (news_take (k := cap) (HC.out _ hb1))
        have L1 : (l.take cap).length = cap := by rw [List.length_take]; omega
        have HN2 := Lib.hid (fun (W : World) (hb : Below wr.heap.size wr W) => news_drop (k := cap) (HC.out W hb) ⟨b, 0, none⟩ (.inr hge))
        have hck2 : cap ≤ cap := by omega
        clear HR HC
        go_wp2_with (at_builtin; refine wpList_append_own _ rfl _ _ 22 rfl wr.heap.size 3 i0 (.int .i64 0) 1 8 Try.underlying22 hi hz0 hz1 hz2 rfl (by decide) _ 0 [] rfl HE.out ⟨b, 0, none⟩ cap cap (iCs (l.take cap)) rfl (by rw [iCs_len, L1, Nat.mul_one]) N1.out (ints_one _) (by unfold maxLen; omega) (by omega) hbs1 ?_; intro v2 w2 hown2 hgrow2 hnil2; have hb2 := hb1.grown hgrow2 hbs1 (fun j e => (HE.out.lt j e).1); have HO2 := Lib.hid hown2; have HN := Lib.hid (show v2 ≠ .slice none 0 0 from fun e => by cases (hnil2.1 e).1); clear hown2 hgrow2 hnil2)
        have hbd := hb2.drew
        have hb3 := hbd.alloc hbd.size (.cells #[.int .i64 n] 3)
        have hbs3 := hb3.size
        have HO3 := Lib.hid (show (w2.drew.alloc (.cells #[.int .i64 n] 3)).ownsRow wr.heap.size 3 1 v2 (0 + cap) ([] ++ iCs (l.take cap)) from HO2.out.drew.alloc _)
        have NW := Lib.hid (show ∀ j u, (iCs [n])[j]? = some u → (w2.drew.alloc (.cells #[.int .i64 n] 3)).cell? ((⟨w2.drew.heap.size, 0, none⟩ : Addr).add j) = some u from new_int w2.drew n 3)
        have L2 : (l.drop cap).length = l.length - cap := List.length_drop
        clear HO2 hb1 hbs1 HE N1
        go_wp2_with fail
        go_region_law
          (first
            | ((refine step_append_ints rfl _ _ rfl wr.heap.size (0 + cap) 1 1 v2 _ ⟨w2.drew.heap.size, 0, none⟩ [n] rfl rfl HO3.out rfl NW.out (by omega) hbs3 ?_); intro v4 w4 hown4 hg4 hnil4; have hb4 := hb3.grown hg4 hbs3 (fun j e => (HO3.out.lt j e).1); have HN4 := Lib.hid (show v4 ≠ .slice none 0 0 from fun e => HN.out (hnil4.1 e).1); have HO4 := Lib.hid hown4; clear hown4 hg4 hnil4)
            | ((refine step_append_ints rfl _ _ rfl wr.heap.size (0 + cap + 1) _ _ v4 _ ⟨b, 0, none⟩ (l.drop cap) rfl rfl HO4.out (by omega) (HN2.out _ hb4) (by omega) hb4.size ?_); intro v5 w5 hown5 hg5 hnil5; have hb5 := hb4.grown hg5 hb4.size (fun j e => (HO4.out.lt j e).1); have HN5 := Lib.hid (show v5 ≠ .slice none 0 0 from fun e => HN4.out (hnil5.1 e).1); have HO5 := Lib.hid hown5; clear hown5 hg5 hnil5))
        all_goals
          have HF := Lib.hid (insU_row l n cap hk HI.out (by omega) HO5.out HN5.out)
          clear HO3 HO4 HO5 NW
          go_wp2_with fail
          go_ret
          exact ⟨⟨_, rfl, HF.out.1.base hbase, HF.out.2⟩, hb5⟩
      · have hbk : k ≤ 1048576 := by omega
        have N1 := Lib.hid (news_take (k := k) (HC.out _ hb1))
        have L1 : (l.take k).length = k := by rw [List.length_take]; omega
        have HN2 := Lib.hid (fun (W : World) (hb : Below wr.heap.size wr W) => news_drop (k := k) (HC.out W hb) ⟨b, k, none⟩ (.inl rfl))
        have hck2 : k ≤ cap := by omega
        have hck : ¬ cap = k := by omega
        clear HR HC
        go_wp2_with (at_builtin; refine wpList_append_own _ rfl _ _ 22 rfl wr.heap.size 3 i0 (.int .i64 0) 1 8 Try.underlying22 hi hz0 hz1 hz2 rfl (by decide) _ 0 [] rfl HE.out ⟨b, 0, none⟩ k cap (iCs (l.take k)) rfl (by rw [iCs_len, L1, Nat.mul_one]) N1.out (ints_one _) (by unfold maxLen; omega) (by omega) hbs1 ?_; intro v2 w2 hown2 hgrow2 hnil2; have hb2 := hb1.grown hgrow2 hbs1 (fun j e => (HE.out.lt j e).1); have HO2 := Lib.hid hown2; have HN := Lib.hid (show v2 ≠ .slice none 0 0 from fun e => by cases (hnil2.1 e).1); clear hown2 hgrow2 hnil2)
        have hbd := hb2.drew
        have hb3 := hbd.alloc hbd.size (.cells #[.int .i64 n] 3)
        have hbs3 := hb3.size
        have HO3 := Lib.hid (show (w2.drew.alloc (.cells #[.int .i64 n] 3)).ownsRow wr.heap.size 3 1 v2 (0 + k) ([] ++ iCs (l.take k)) from HO2.out.drew.alloc _)
        have NW := Lib.hid (show ∀ j u, (iCs [n])[j]? = some u → (w2.drew.alloc (.cells #[.int .i64 n] 3)).cell? ((⟨w2.drew.heap.size, 0, none⟩ : Addr).add j) = some u from new_int w2.drew n 3)
        have L2 : (l.drop k).length = l.length - k := List.length_drop
        clear HO2 hb1 hbs1 HE N1
        go_wp2_with fail
        go_region_law
          (first
            | ((refine step_append_ints rfl _ _ rfl wr.heap.size (0 + k) 1 1 v2 _ ⟨w2.drew.heap.size, 0, none⟩ [n] rfl rfl HO3.out rfl NW.out (by omega) hbs3 ?_); intro v4 w4 hown4 hg4 hnil4; have hb4 := hb3.grown hg4 hbs3 (fun j e => (HO3.out.lt j e).1); have HN4 := Lib.hid (show v4 ≠ .slice none 0 0 from fun e => HN.out (hnil4.1 e).1); have HO4 := Lib.hid hown4; clear hown4 hg4 hnil4)
            | ((refine step_append_ints rfl _ _ rfl wr.heap.size (0 + k + 1) _ _ v4 _ ⟨b, k, none⟩ (l.drop k) rfl rfl HO4.out (by omega) (HN2.out _ hb4) (by omega) hb4.size ?_); intro v5 w5 hown5 hg5 hnil5; have hb5 := hb4.grown hg5 hb4.size (fun j e => (HO4.out.lt j e).1); have HN5 := Lib.hid (show v5 ≠ .slice none 0 0 from fun e => HN4.out (hnil5.1 e).1); have HO5 := Lib.hid hown5; clear hown5 hg5 hnil5))
        all_goals
          have HF := Lib.hid (insU_row l n k hk HI.out (by omega) HO5.out HN5.out)
          clear HO3 HO4 HO5 NW
          go_wp2_with fail
          go_ret
          exact ⟨⟨_, rfl, HF.out.1.base hbase, HF.out.2⟩, hb5⟩
end Go.Proofs.Ytjiimcbfniknoaa
