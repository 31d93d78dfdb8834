/-
  A list of drawn words: l1List, DrawJoinWords.
-/
import Derived.Test.YtljoipgpkmdjbaaDoorDrawU
import Derived.Test.YtljoipgpkmdjbaaDoorC7
import Derived.Test.YtljoipgpkmdjbaaDoorCutLaw
namespace Go.Proofs.YtljoipgpkmdjbaaDoor
open Go.RowKit
set_option maxRecDepth 100000

/-- A row of a call's own stands where no block behind its base turns. -/
theorem own_keep {w w' : World} {base e size n : Nat} {v : Value} {xs : List Value} (h : w.ownsRow base e size v n xs) (hk : ∀ b, base ≤ b → b < w.heap.size → w'.heap[b]? = w.heap[b]?) : w'.ownsRow base e size v n xs := by
  rcases h with ⟨h1, h2 | ⟨g, cap, cur, e1, e2, e3, e4⟩⟩
  · exact ⟨h1, .inl h2⟩
  · exact ⟨h1, .inr ⟨g, cap, cur, e1, e2, (hk g e2 (Array.getElem?_eq_some_iff.1 e3).1).trans e3, e4⟩⟩
theorem Rd.under {w w' : World} {R p B : Nat} (h : Rd w R p) (hb : Below B w w') (hR : R < B) : Rd w' R p := by
  obtain ⟨A, l, cap, h0, h1, h2⟩ := h.ex
  exact ⟨A, l, cap, h0, by rw [hb.block R hR]; exact h1, h2.below (hb.mono (by omega))⟩
theorem drewT_then {R p : Nat} {a b c : World} (h : DrewT R p a b) (hb : Below a.heap.size b c) (hR : R < a.heap.size) : DrewT R p a c := by
  obtain ⟨⟨q, hq, hr⟩, ht⟩ := h
  exact ⟨⟨q, hq, hr.under hb hR⟩, ht.below.trans (hb.mono (Nat.le_of_lt hR)), fun k h1 h2 => (hb.block k h2).trans (ht.above k h1 h2)⟩
def listN : List Int := [3, 6, 10, 1, 0, 20]
def kindsN : List Int := [0, 1, 2, 3, 4, 5, -1]
theorem listN_le : ∀ s ∈ listN, 0 ≤ s ∧ s ≤ (20 : Nat) := by decide
/-- What drawing a list of words leaves. -/
def ListT (R p : Nat) (w : World) (e : Ending) (w' : World) : Prop := ∃ (v : Value) (ws : List (Int × ByteArray)), ws.length ≤ 20 ∧ (∀ x ∈ ws, x.2.size ≤ 300) ∧ e = .returned v ∧ w'.ownsRow w.heap.size 28 2 v ws.length (wordCells ws) ∧ DrewT R p w w'
set_option maxHeartbeats 8000000 in
theorem l1List_any (R p : Nat) (w : World) (h : Rd w R p) (hp : p ≤ 700000) :
    Calls Tryd.prog 35 #[.pointer (some ⟨R, 0, none⟩)] w (ListT R (p + 200) w) := by
  obtain ⟨i0, hi, hz0, hz1, hz2⟩ := info_parts wordInfo
  have hlt := h.lt
  have hE : Below w.heap.size w (w.alloc (.cells #[] 28)) := (Below.refl _ _).alloc (Nat.le_refl _) _
  have hd0 := DrewT.below h hE
  have EM := Lib.hid (empty_own w w.heap.size (Nat.le_refl _))
  have PK := fun n q W hR hq h1 h2 => Lib.hid (pick_t R q n W hR hq h1 h2)
  have ON := fun q W hR hq => Lib.hid (num_t R q listN W 3 (0, 0) hR hq (by decide) (by decide))
  have OK := fun q W hR hq => Lib.hid (num_t R q kindsN W 3 (0, 0) hR hq (by decide) (by decide))
  have SM := fun q W hR hq => Lib.hid (l1Some_t R q W hR hq)
  have BD := fun q W hR hq => Lib.hid (l1Bad_t R q W hR hq)
  have LW := fun t W h0 => Lib.hid (l1Word_any t W h0)
  have PK0 := Lib.hid (PK 4 p _ (h.keep hE) (by omega) (by omega) (by omega)).out
  clear h hE
  go_enter Tryd.func35, Tryd.ntmps35
  go_wp2_with fail
  refine PK0.out.mono ?_
  rintro e w2 ⟨r, hr, rfl, hd2⟩
  obtain ⟨q2, hq2, hR2⟩ := hd2.1
  have HO2 := Lib.hid (own_keep EM.out (fun b h1 h2 => hd2.2.above b (by omega) h2))
  replace hd2 := Lib.hid (hd0.trans hd2)
  replace hR2 := Lib.hid hR2
  have hbad : ∃ bad : Bool, ((r : Int) == 0) = bad := ⟨_, rfl⟩
  obtain ⟨bad, hbad⟩ := hbad
  clear PK0 EM hd0
  go_wp2_with fail
  refine (ON q2 w2 hR2.out (by omega)).out.mono ?_
  rintro e w3 ⟨s3, hs3, rfl, hd3⟩
  obtain ⟨n, hn, rfl⟩ := nat_of s3 20 (listN_le s3 hs3)
  have hz2' := hd2.out.2.below.size
  have HO3 := Lib.hid (own_keep HO2.out (fun b h1 h2 => hd3.2.above b (by omega) h2))
  replace hd3 := Lib.hid (hd2.out.trans hd3)
  clear hd2 hR2 ON hs3 hbad HO2 hr
  go_wp2
  go_loopw [3, 5] (fun o i wr => ∃ (k : Nat) (acc : List (Int × ByteArray)), k ≤ 20 ∧ i = .int .i64 k ∧ acc.length ≤ 20 - k ∧ (∀ x ∈ acc, x.2.size ≤ 300) ∧ wr.ownsRow w.heap.size 28 2 o acc.length (wordCells acc) ∧ DrewT R (p + 3 + 7 * (20 - k)) w wr) (fun _ i _ => (intOf i).toNat)
  case atStart => exact ⟨n, [], hn, rfl, by simp, (fun x hx => by cases hx), HO3.out, hd3.out.more (by omega)⟩
  case round =>
    clear hd3 HO3
    obtain ⟨k, acc, hk, rfl, hal, hac, HO, hd⟩ := hrel
    obtain ⟨q, hq, hR⟩ := hd.1
    have hws := hd.2.below.size
    replace hd := Lib.hid hd
    replace hR := Lib.hid hR
    replace HO := Lib.hid HO
    replace hac := Lib.hid hac
    by_cases h0 : 0 < k
    · have SM1 := Lib.hid (SM q wr hR.out (by omega)).out
      clear SM
      go_wp2_with fail
      refine SM1.out.mono ?_
      rintro e w4 ⟨t, ht, rfl, hd4⟩
      have ht1 := ht.1
      have ht2 := ht.2
      obtain ⟨q4, hq4, hR4⟩ := hd4.1
      replace hd4 := Lib.hid hd4
      clear SM1 ht hR
      go_wp2_with fail
      refine (LW t w4 ht1).out.mono ?_
      rintro e w6 ⟨rfl, hb6⟩
      generalize wordKind t _ = z at *
      have hbA : Below w4.heap.size w4 (w6.alloc (.cells #[.int .i64 z, .string t] 28)) := hb6.alloc hb6.size _
      have hR6 := Lib.hid (hR4.keep hbA)
      have hd6 := Lib.hid (hd4.out.trans (DrewT.below hR4 hbA))
      have j0 := alloc_cell w6 #[.int .i64 z, .string t] 28 (0, 0) 0
      have j1 := alloc_cell w6 #[.int .i64 z, .string t] 28 (0, 0) 1
      replace j0 : (w6.alloc (.cells #[.int .i64 z, .string t] 28)).cell? ⟨w6.heap.size, 0, none⟩ = some (.int .i64 z) := j0
      replace j1 : (w6.alloc (.cells #[.int .i64 z, .string t] 28)).cell? ⟨w6.heap.size, 1, none⟩ = some (.string t) := j1
      have f0 := alloc_frozen w6 #[.int .i64 z, .string t] 28 0
      have f1 := alloc_frozen w6 #[.int .i64 z, .string t] 28 1
      have h6 : w6.heap.size < (w6.alloc (.cells #[.int .i64 z, .string t] 28)).heap.size := by rw [World.size_alloc]; omega
      have h46 := Nat.le_trans hd4.out.2.below.size hb6.size
      have hR6l : R < w6.heap.size := by omega
      go_upto_region 8 with (fail)
      generalize w6.alloc (.cells #[.int .i64 z, .string t] 28) = w7 at *
      clear LW hd4 hb6 hR4 hbA
      cases bad
      · have hd5 := hd6
        clear hd6 PK OK BD f0 f1 hR6
        have HO5 := Lib.hid (own_keep HO.out (fun b h1 h2 => hd5.out.2.above b (by omega) h2))
        have hbv := hd5.out.2.below.size
        have HNW := Lib.hid (new_word w7 z t)
        have HTO := Lib.hid (wordOne z t)
        have hbz : w.heap.size ≤ (w7.alloc (.cells #[.int .i64 z, .string t] 28)).heap.size := by rw [World.size_alloc]; omega
        clear HO
        go_wp2_with (at_builtin; refine wpList_append_own _ rfl _ _ 23 rfl w.heap.size 28 i0 (.agg #[.int .i64 0, .string ⟨#[]⟩]) 2 24 Tryd.underlying23 hi hz0 hz1 hz2 rfl (by decide) _ acc.length (wordCells acc) rfl (HO5.out.alloc _) ⟨w7.heap.size, 0, none⟩ 1 1 [.int .i64 z, .string t] rfl rfl HNW.out HTO.out (by unfold maxLen; omega) (by omega) hbz ?_; intro v' w9 hown9 hgrow9 _)
        have hb9 := ((Below.refl w.heap.size w7).alloc (by omega) (.cells #[.int .i64 z, .string t] 28)).grown hgrow9 hbz (fun k e => ((HO5.out.alloc (.cells #[.int .i64 z, .string t] 28)).lt k e).1)
        have HO9 := Lib.hid hown9
        have hd9 := Lib.hid (drewT_then (hd.out.trans hd5.out) hb9 hlt)
        clear hgrow9 hown9 hb9 hd5 hd
        go_wp2
        go_roundw
        case rel => exact ⟨k - 1, acc ++ [(z, t)], by omega, by go_num, by rw [List.length_append]; show acc.length + 1 ≤ _; omega, (by intro x hx; rcases List.mem_append.1 hx with h | h; exact hac.out x h; rw [List.mem_singleton.1 h]; show (t).size ≤ 300; omega), (by rw [wordCells_snoc, List.length_append]; exact HO9.out), hd9.out.more (by omega)⟩
        case measure => simp only [intOf]; omega
      · have PK7 := Lib.hid (PK 6 q4 w7 hR6.out (by omega) (by omega) (by omega)).out
        clear PK hR6
        go_wp2_with fail
        refine PK7.out.mono ?_
        rintro e w8 ⟨r8, hr8, rfl, hd8⟩
        obtain ⟨q8, hq8, hR8⟩ := hd8.1
        have c0 := (hd8.2.cell hR6l h6).trans j0
        have c1 := (hd8.2.cell hR6l h6).trans j1
        have g0 := (hd8.2.frozen (o := 0) hR6l h6).trans f0
        have g1 := (hd8.2.frozen (o := 1) hR6l h6).trans f1
        have h8 := Nat.lt_of_lt_of_le h6 hd8.2.below.size
        replace hd8 := Lib.hid (hd6.out.trans hd8)
        clear PK7 hd6 j0 j1 f0 f1
        by_cases e8 : r8 = 0
        · subst e8
          have OK8 := Lib.hid (OK q8 w8 hR8 (by omega)).out
          clear OK hR8
          go_wp2_with fail
          refine OK8.out.mono ?_
          rintro e wa ⟨za, _, rfl, hda⟩
          obtain ⟨qa, hqa, hRa⟩ := hda.1
          have c0a := (hda.2.cell hR6l h8).trans c0
          have c1a := (hda.2.cell hR6l h8).trans c1
          have g0a := (hda.2.frozen (o := 0) hR6l h8).trans g0
          have g1a := (hda.2.frozen (o := 1) hR6l h8).trans g1
          have ha := Nat.lt_of_lt_of_le h8 hda.2.below.size
          replace hda := Lib.hid (hd8.out.trans hda)
          have BDa := Lib.hid (BD qa wa hRa (by omega)).out
          clear BD hRa OK8 hd8 c0 c1 g0 g1
          go_wp2_with fail
          refine BDa.out.mono ?_
          rintro e wb ⟨tb, htb, rfl, hdb⟩
          have k0 := (hdb.2.cell hR6l ha).trans c0a
          have k1 := (hdb.2.cell hR6l ha).trans c1a
          have k2 := (hdb.2.frozen (o := 0) hR6l ha).trans g0a
          have k3 := (hdb.2.frozen (o := 1) hR6l ha).trans g1a
          have hwr : R < wr.heap.size := by omega
          have hd5 := Lib.hid (((hda.out.trans hdb).set (b := w6.heap.size) (by omega) hwr 0 (.int .i64 za)).set (b := w6.heap.size) (by omega) hwr 1 (.string tb))
          obtain ⟨m0, m1⟩ := own_set k0 k1
          have n1 := m1 (.int .i64 za) (.string tb)
          have n0 : ((wb.setCell ⟨w6.heap.size, 0, none⟩ (.int .i64 za)).setCell ⟨w6.heap.size, 1, none⟩ (.string tb)).cell? ⟨w6.heap.size, 0, none⟩ = some (.int .i64 za) := by rw [World.cell?_setCell_other _ _ _ _ (by simp)]; exact m0 _
          clear BDa hda hdb c0a c1a g0a g1a m0 m1
          go_upto_region 10 with (fail)
          generalize (wb.setCell ⟨w6.heap.size, 0, none⟩ (.int .i64 za)).setCell ⟨w6.heap.size, 1, none⟩ (.string tb) = wc at *
          clear k0 k1 k2 k3
          have HO5 := Lib.hid (own_keep HO.out (fun b h1 h2 => hd5.out.2.above b (by omega) h2))
          have hbv := hd5.out.2.below.size
          have HNW := Lib.hid (new_word wc za tb)
          have HTO := Lib.hid (wordOne za tb)
          have hbz : w.heap.size ≤ (wc.alloc (.cells #[.int .i64 za, .string tb] 28)).heap.size := by rw [World.size_alloc]; omega
          clear HO
          go_wp2_with (at_builtin; refine wpList_append_own _ rfl _ _ 23 rfl w.heap.size 28 i0 (.agg #[.int .i64 0, .string ⟨#[]⟩]) 2 24 Tryd.underlying23 hi hz0 hz1 hz2 rfl (by decide) _ acc.length (wordCells acc) rfl (HO5.out.alloc _) ⟨wc.heap.size, 0, none⟩ 1 1 [.int .i64 za, .string tb] rfl rfl HNW.out HTO.out (by unfold maxLen; omega) (by omega) hbz ?_; intro v' w9 hown9 hgrow9 _)
          have hb9 := ((Below.refl w.heap.size wc).alloc (by omega) (.cells #[.int .i64 za, .string tb] 28)).grown hgrow9 hbz (fun k e => ((HO5.out.alloc (.cells #[.int .i64 za, .string tb] 28)).lt k e).1)
          have HO9 := Lib.hid hown9
          have hd9 := Lib.hid (drewT_then (hd.out.trans hd5.out) hb9 hlt)
          clear hgrow9 hown9 hb9 hd5 hd
          go_wp2
          go_roundw
          case rel => exact ⟨k - 1, acc ++ [(za, tb)], by omega, by go_num, by rw [List.length_append]; show acc.length + 1 ≤ _; omega, (by intro x hx; rcases List.mem_append.1 hx with h | h; exact hac.out x h; rw [List.mem_singleton.1 h]; show (tb).size ≤ 300; omega), (by rw [wordCells_snoc, List.length_append]; exact HO9.out), hd9.out.more (by omega)⟩
          case measure => simp only [intOf]; omega
        · have e9 : ((r8 : Int) == 0) = false := by rw [beq_eq_false_iff_ne]; omega
          have hd5 := hd8
          clear hd8 e8 OK BD g0 g1 hR8
          have HO5 := Lib.hid (own_keep HO.out (fun b h1 h2 => hd5.out.2.above b (by omega) h2))
          have hbv := hd5.out.2.below.size
          have HNW := Lib.hid (new_word w8 z t)
          have HTO := Lib.hid (wordOne z t)
          have hbz : w.heap.size ≤ (w8.alloc (.cells #[.int .i64 z, .string t] 28)).heap.size := by rw [World.size_alloc]; omega
          clear HO
          go_wp2_with (at_builtin; refine wpList_append_own _ rfl _ _ 23 rfl w.heap.size 28 i0 (.agg #[.int .i64 0, .string ⟨#[]⟩]) 2 24 Tryd.underlying23 hi hz0 hz1 hz2 rfl (by decide) _ acc.length (wordCells acc) rfl (HO5.out.alloc _) ⟨w8.heap.size, 0, none⟩ 1 1 [.int .i64 z, .string t] rfl rfl HNW.out HTO.out (by unfold maxLen; omega) (by omega) hbz ?_; intro v' w9 hown9 hgrow9 _)
          have hb9 := ((Below.refl w.heap.size w8).alloc (by omega) (.cells #[.int .i64 z, .string t] 28)).grown hgrow9 hbz (fun k e => ((HO5.out.alloc (.cells #[.int .i64 z, .string t] 28)).lt k e).1)
          have HO9 := Lib.hid hown9
          have hd9 := Lib.hid (drewT_then (hd.out.trans hd5.out) hb9 hlt)
          clear hgrow9 hown9 hb9 hd5 hd
          go_wp2
          go_roundw
          case rel => exact ⟨k - 1, acc ++ [(z, t)], by omega, by go_num, by rw [List.length_append]; show acc.length + 1 ≤ _; omega, (by intro x hx; rcases List.mem_append.1 hx with h | h; exact hac.out x h; rw [List.mem_singleton.1 h]; show (t).size ≤ 300; omega), (by rw [wordCells_snoc, List.length_append]; exact HO9.out), hd9.out.more (by omega)⟩
          case measure => simp only [intOf]; omega
    · obtain rfl : k = 0 := by omega
      clear SM BD OK LW PK h0
      go_wp2
      go_ret
      exact ⟨_, acc, by omega, hac.out, rfl, HO.out, hd.out.more (by omega)⟩
end Go.Proofs.YtljoipgpkmdjbaaDoor
