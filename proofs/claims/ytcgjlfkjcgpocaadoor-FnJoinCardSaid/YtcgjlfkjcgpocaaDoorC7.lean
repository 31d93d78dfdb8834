/-
  CutWords: the model's and the program's cut a text into the same words.
-/
import Derived.Test.YtcgjlfkjcgpocaaDoorC6
import Derived.Deep.DeepCutAuto
import Derived.Deep.CutBlock
namespace Go.Proofs.YtcgjlfkjcgpocaaDoor
open Go.RowKit
set_option maxRecDepth 100000

/-- Words in memory of the call's own, and a flag. -/
def CutRet (p : List (Int × ByteArray) × Bool) (w : World) (e : Ending) (w' : World) : Prop :=
  (∃ v, e = .returned (.tuple #[v, .bool p.2]) ∧ w'.ownsRow w.heap.size 29 2 v p.1.length (wordCells p.1)) ∧ Below w.heap.size w w'
theorem wordCells_snoc : ∀ (l : List (Int × ByteArray)) (x : Int × ByteArray), wordCells (l ++ [x]) = wordCells l ++ [.int .i64 x.1, .string x.2]
  | [], _ => rfl
  | y :: l, x => by simp [wordCells, wordCells_snoc l x]
theorem wordOne (z : Int) (t : ByteArray) : ∀ u ∈ [Value.int .i64 z, Value.string t], u.oneCell' = true := by
  intro u hu
  simp at hu
  rcases hu with rfl | rfl <;> rfl
theorem new_word (w : World) (z : Int) (t : ByteArray) : ∀ (j : Nat) u, [Value.int .i64 z, Value.string t][j]? = some u → (w.alloc (.cells #[.int .i64 z, .string t] 29)).cell? ((⟨w.heap.size, 0, none⟩ : Addr).add j) = some u := by
  intro j u hu
  match j, hu with
  | 0, hu =>
    have : (⟨w.heap.size, 0, none⟩ : Addr).add 0 = ⟨w.heap.size, 0, none⟩ := rfl
    rw [this, alloc_cell]
    exact hu
  | 1, hu =>
    have : (⟨w.heap.size, 0, none⟩ : Addr).add 1 = ⟨w.heap.size, 1, none⟩ := rfl
    rw [this, alloc_cell]
    exact hu
  | j + 2, hu => simp at hu
theorem own_slice {w : World} {base e size n : Nat} {v : Value} {xs : List Value} (h : w.ownsRow base e size v n xs) : ∃ A cap, v = .slice A n cap := by
  rcases h.2 with ⟨rfl, rfl⟩ | ⟨g, cap, cur, rfl, _⟩
  · exact ⟨none, 0, rfl⟩
  · exact ⟨_, cap, rfl⟩
/-- Behind words acc, from i on. -/
def cutAt (s : ByteArray) (i : Nat) (acc : List (Int × ByteArray)) : Prop := cutF s 0 = (cutF s i).map (acc ++ ·) ∧ acc.length ≤ i
theorem cutAt_blank {s : ByteArray} {i : Nat} {acc : List (Int × ByteArray)} (h : cutAt s i acc) (hi : i < s.size) (hc : cls s[i].toNat = 4) : cutAt s (i + 1) acc := ⟨by rw [h.1, cutF_blank hi hc], by have := h.2; omega⟩
theorem cutAt_word {s : ByteArray} {i : Nat} {acc : List (Int × ByteArray)} (h : cutAt s i acc) (hi : i < s.size) (hc : cls s[i].toNat ≠ 4) (h0 : cls s[i].toNat ≠ 0) (hv : validB (wordKind (s.extract i (endC s i hi)) (cls s[i].toNat)) (s.extract i (endC s i hi)) = true) :
    cutAt s (endC s i hi) (acc ++ [(wordKind (s.extract i (endC s i hi)) (cls s[i].toNat), s.extract i (endC s i hi))]) := by
  refine ⟨?_, by have := h.2; have := endC_bd hi; simp; omega⟩
  rw [h.1, cutF_word hi hc h0 hv]
  cases cutF s (endC s i hi) <;> simp
theorem cutAt_bad {s : ByteArray} {i : Nat} {acc : List (Int × ByteArray)} (h : cutAt s i acc) (hn : cutF s i = none) : cutRes s = ([], false) := cutRes_none (by rw [h.1, hn]; rfl)
theorem cutAt_end {s : ByteArray} {i : Nat} {acc : List (Int × ByteArray)} (h : cutAt s i acc) (hi : ¬ i < s.size) : cutF s 0 = some acc := by rw [h.1, cutF_end hi]; simp
theorem endC_blank {s : ByteArray} {i : Nat} (h : i < s.size) (hc : 3 ≤ cls s[i].toNat) : endC s i h = i + 1 := by
  unfold endC
  refine scanP_stop (fun _ => ?_)
  unfold goCls
  rw [decide_eq_false (show ¬ cls s[i].toNat < 3 by omega), Bool.and_false]

theorem empty_own (w : World) (base : Nat) (hb : base ≤ w.heap.size) : (w.alloc (.cells #[] 29)).ownsRow base 29 2 (.slice (some ⟨w.heap.size, 0, none⟩) 0 0) 0 [] := by
  refine ⟨rfl, .inr ⟨w.heap.size, 0, #[], rfl, hb, ?_, Nat.le_refl _, by unfold maxLen; omega, rfl, rfl⟩⟩
  show (w.heap.push _)[w.heap.size]? = _
  simp
set_option maxHeartbeats 4000000 in
theorem specCutWords_any (s : ByteArray) (w : World) (hs : s.size ≤ 1048576) :
    Calls Tryd.prog 11 #[.string s] w (CutRet (cutRes s) w) := by
  obtain ⟨i0, hi, hz0, hz1, hz2⟩ := info_parts wordInfo
  by_cases hlong : 3000 < s.size
  · rw [cutRes_long hlong]
    have hpos : 0 < s.size := by omega
    go_enter Tryd.func11, Tryd.ntmps11
    go_wp2
    refine wp_loop_rounds 1 ?_
    rw [rounds_succ]
    go_wp2
    go_ret2
    have hbn := (Below.refl w.heap.size w).alloc (Nat.le_refl _) (.cells #[] 29)
    have he := empty_own _ _ hbn.size
    rw [World.size_alloc] at he
    exact ⟨⟨_, rfl, he⟩, hbn.alloc hbn.size _⟩
  have hle : s.size ≤ 3000 := by omega
  clear hlong hs
  go_enter Tryd.func11, Tryd.ntmps11
  go_wp2
  go_loopw [4, 5] (fun v i wr => ∃ (n : Nat) (acc : List (Int × ByteArray)), n ≤ s.size ∧ i = .int .i64 n ∧ cutAt s n acc ∧ wr.ownsRow w.heap.size 29 2 v acc.length (wordCells acc) ∧ Below w.heap.size w wr) (fun _ i _ => s.size - (intOf i).toNat)
  case atStart => exact ⟨0, [], Nat.zero_le _, rfl, ⟨by simp, Nat.le_refl _⟩, empty_own _ _ (Nat.le_refl _), (Below.refl _ _).alloc (Nat.le_refl _) _⟩
  case round =>
    obtain ⟨n, acc, hn, rfl, hat, hown, hb⟩ := hrel
    have HAT := Lib.hid hat
    have hacc : acc.length ≤ n := hat.2
    have HO := Lib.hid hown
    clear hat hown
    obtain ⟨wo, rfl⟩ : ∃ wo : World, wo = wr := ⟨_, rfl⟩
    by_cases hlt : n < s.size
    · have CL := Lib.hid (l1Class_any s[n] wo)
      have hbd := endC_bd hlt
      have hcr := cls_range s[n].toNat
      go_wp2_with fail
      refine CL.out.mono ?_
      rintro e w1 ⟨rfl, rfl⟩
      clear CL
      obtain ⟨c, hc⟩ : ∃ c, c = cls s[n].toNat := ⟨_, rfl⟩
      obtain ⟨E, hE⟩ : ∃ E, E = endC s n hlt := ⟨_, rfl⟩
      have HSC := Lib.hid (show scanP s (goCls c) (n + 1) = E by rw [hc, hE]; rfl)
      rw [← hc] at hcr ⊢
      rw [← hE] at hbd
      have HC := Lib.hid hc
      have HEE := Lib.hid hE
      clear hc hE
      go_upto_block 2 with (fail)
      go_cut [7] (fun k wx => k = .int .i64 (E : Int) ∧ wx = wo)
      case first =>
        go_wp2
        go_loop [7] (fun k => ∃ m : Nat, n + 1 ≤ m ∧ m ≤ s.size ∧ k = .int .i64 m ∧ scanP s (goCls c) m = E) (fun k => s.size - (intOf k).toNat)
        case atStart => exact ⟨n + 1, Nat.le_refl _, hlt, by go_num, HSC.out⟩
        case round =>
          obtain ⟨m, hm1, hm2, rfl, hsc⟩ := hrel
          have HM := Lib.hid hsc
          clear hsc
          by_cases hms : m < s.size
          · have CM := Lib.hid (l1Class_any s[m] wo)
            have HD := Lib.hid (show goCls c s[m] = (cls s[m].toNat == c && decide (c < 3)) from rfl)
            generalize hcm : cls s[m].toNat = c2 at *
            clear hcm
            go_wp2_with fail
            refine CM.out.mono ?_
            rintro e w1 ⟨rfl, rfl⟩
            by_cases h2 : c2 = c
            · by_cases h3 : c < 3
              · have b2 : (c2 == c) = true := beq_iff_eq.2 h2
                have HN := Lib.hid (scanP_step (p := goCls c) hms (by rw [HD.out, b2, decide_eq_true h3]; rfl))
                clear h2
                go_wp2
                go_round
                case rel => exact ⟨m + 1, by omega, hms, by go_num, by rw [← HN.out]; exact HM.out⟩
                case measure => simp only [intOf]; omega
              · have b2 : (c2 == c) = true := beq_iff_eq.2 h2
                have HN := Lib.hid (scanP_stop (s := s) (p := goCls c) (k := m) (fun h => by rw [HD.out, decide_eq_false h3, Bool.and_false]))
                have HX := Lib.hid (HN.out.symm.trans HM.out)
                have h3' : 3 ≤ c := by omega
                clear h2 h3
                go_wp2
                go_meet
                exact ⟨by rw [← HX.out], rfl⟩
            · have b2 : (c2 == c) = false := by rw [beq_eq_false_iff_ne]; exact h2
              have HN := Lib.hid (scanP_stop (s := s) (p := goCls c) (k := m) (fun h => by rw [HD.out, b2, Bool.false_and]))
              have HX := Lib.hid (HN.out.symm.trans HM.out)
              clear h2
              go_wp2
              go_meet
              exact ⟨by rw [← HX.out], rfl⟩
          · have HN := Lib.hid (scanP_stop (s := s) (p := goCls c) (k := m) (fun h => absurd h hms))
            have HX := Lib.hid (HN.out.symm.trans HM.out)
            have hms' : s.size ≤ m := by omega
            clear hms
            go_wp2
            go_meet
            exact ⟨by rw [← HX.out], rfl⟩
      case rest =>
        obtain ⟨rfl, rfl⟩ := hcut
        have hbs := hb.size
        by_cases h4 : c = 4
        · subst h4
          have hE1 : E = n + 1 := by rw [HEE.out]; exact endC_blank hlt (by rw [← HC.out]; omega)
          have HN := Lib.hid (cutAt_blank HAT.out hlt HC.out.symm)
          have HE1 := Lib.hid hE1
          clear hE1
          go_wp2
          go_roundw
          case rel => exact ⟨E, acc, hbd.2, rfl, by rw [HE1.out]; exact HN.out, HO.out, hb⟩
          case measure => simp only [intOf]; omega
        have b4 : (c == 4) = false := by rw [beq_eq_false_iff_ne]; exact h4
        have b4' : (c != 4) = true := by rw [bne, b4]; rfl
        by_cases h0 : c = 0
        · subst h0
          have HR := Lib.hid (cutAt_bad HAT.out (cutF_bad hlt (by rw [← HC.out]; omega) (.inl HC.out.symm)))
          have HEM := Lib.hid (empty_own wc _ hbs)
          have hbn := hb.alloc hbs (.cells #[] 29)
          clear h4
          go_wp2
          go_ret2
          rw [HR.out]
          exact ⟨⟨_, rfl, HEM.out⟩, hbn⟩
        have b0 : (c == 0) = false := by rw [beq_eq_false_iff_ne]; exact h0
        obtain ⟨t0, tg⟩ := extract_get hbd.1 hbd.2
        have LW := fun W => l1Word_any (s.extract n E) W t0
        rw [tg, ← HC.out] at LW
        replace LW := fun W => Lib.hid (LW W)
        have htz : (s.extract n E).size ≤ 1048576 := by rw [ByteArray.size_extract]; omega
        have VW := fun W => Lib.hid (specWordValid_any (wordKind (s.extract n E) c) (s.extract n E) W htz)
        have HV0 : validB (wordKind (s.extract n (endC s n hlt)) (cls s[n].toNat)) (s.extract n (endC s n hlt)) = validB (wordKind (s.extract n E) c) (s.extract n E) := by rw [← HEE.out, ← HC.out]
        cases hv : validB (wordKind (s.extract n E) c) (s.extract n E)
        · have HR := Lib.hid (cutAt_bad HAT.out (cutF_bad hlt (by rw [← HC.out]; exact h4) (.inr (HV0.trans hv))))
          rw [hv] at VW
          clear HV0 hv htz tg t0 h4 h0
          generalize wordKind (s.extract n E) c = kd at *
          go_wp2_with fail
          refine (LW _).out.mono ?_
          rintro e w2 ⟨rfl, hb2⟩
          go_wp2_with fail
          refine (VW _).out.mono ?_
          rintro e w3 ⟨rfl, hb3⟩
          have hb4 := (hb.trans (hb2.mono hbs)).trans (hb3.mono (Nat.le_trans hbs hb2.size))
          have HEM := Lib.hid (empty_own w3 _ hb4.size)
          have hbn := hb4.alloc hb4.size (.cells #[] 29)
          clear hb hb2 hb3 hb4
          go_wp2
          go_ret2
          rw [HR.out]
          exact ⟨⟨_, rfl, HEM.out⟩, hbn⟩
        · have HN0 := cutAt_word HAT.out hlt (by rw [← HC.out]; exact h4) (by rw [← HC.out]; exact h0) (HV0.trans hv)
          rw [← HEE.out, ← HC.out] at HN0
          have HN := Lib.hid HN0
          rw [hv] at VW
          clear HV0 HN0 hv htz tg t0 h4 h0
          generalize wordKind (s.extract n E) c = kd at *
          go_wp2_with fail
          refine (LW _).out.mono ?_
          rintro e w2 ⟨rfl, hb2⟩
          go_wp2_with fail
          refine (VW _).out.mono ?_
          rintro e w3 ⟨rfl, hb3⟩
          have hb4 := (hb.trans (hb2.mono hbs)).trans (hb3.mono (Nat.le_trans hbs hb2.size))
          have HO3 := Lib.hid ((HO.out.kept (w' := w2) (row := none) ⟨hb2.os, hb2.tape, hb2.output, hb2.size, fun i hi _ => hb2.block i hi⟩ (Classical.em _)).kept (w' := w3) (row := none) ⟨hb3.os, hb3.tape, hb3.output, hb3.size, fun i hi _ => hb3.block i hi⟩ (Classical.em _))
          clear hb hb2 hb3
          go_wp2_with fail
          refine (LW _).out.mono ?_
          rintro e w4 ⟨rfl, hb5⟩
          have hb6 := hb4.trans (hb5.mono hb4.size)
          have HO4 := Lib.hid (HO3.out.kept (w' := w4) (row := none) ⟨hb5.os, hb5.tape, hb5.output, hb5.size, fun i hi _ => hb5.block i hi⟩ (Classical.em _))
          have HNW := Lib.hid (new_word w4 kd (s.extract n E))
          have HTO := Lib.hid (wordOne kd (s.extract n E))
          have hb7 := hb6.alloc hb6.size (.cells #[.int .i64 kd, .string (s.extract n E)] 29)
          have hbz : w.heap.size ≤ (w4.alloc (.cells #[.int .i64 kd, .string (s.extract n E)] 29)).heap.size := hb7.size
          clear hb4 hb5 hb6
          go_wp2_with (at_builtin; refine wpList_append_own _ rfl _ _ 24 rfl w.heap.size 29 i0 (.agg #[.int .i64 0, .string ⟨#[]⟩]) 2 24 Tryd.underlying24 hi hz0 hz1 hz2 rfl (by decide) _ acc.length (wordCells acc) rfl (HO4.out.alloc _) ⟨w4.heap.size, 0, none⟩ 1 1 [.int .i64 kd, .string (s.extract n E)] rfl rfl HNW.out HTO.out (by unfold maxLen; omega) (by omega) hbz ?_; intro v' w5 hown5 hgrow5 _)
          have hb8 := hb7.grown hgrow5 hbz (fun k e => ((HO4.out.alloc (.cells #[.int .i64 kd, .string (s.extract n E)] 29)).lt k e).1)
          have HO5 := Lib.hid hown5
          clear hb7 hgrow5 hown5
          go_wp2
          go_roundw
          case rel => exact ⟨E, acc ++ [(kd, s.extract n E)], hbd.2, rfl, HN.out, by rw [wordCells_snoc, List.length_append]; exact HO5.out, hb8⟩
          case measure => simp only [intOf]; omega
    · obtain rfl : n = s.size := by omega
      have HE := Lib.hid (cutAt_end HAT.out (by omega))
      have hm : acc.length ≤ 600 ∨ 600 < acc.length := by omega
      obtain ⟨A, cap, rfl⟩ := own_slice HO.out
      rcases hm with hm | hm
      · have HR := Lib.hid (cutRes_yes hle HE.out hm)
        go_wp2
        go_ret2
        rw [HR.out]
        exact ⟨⟨_, rfl, HO.out⟩, hb⟩
      · have HR := Lib.hid (cutRes_many (s := s) (fun ws h => by rw [HE.out] at h; cases h; exact hm))
        have hbn := hb.alloc hb.size (.cells #[] 29)
        have hbs := hb.size
        go_wp2
        go_ret2
        rw [HR.out]
        exact ⟨⟨_, rfl, empty_own _ _ hbs⟩, hbn⟩
end Go.Proofs.YtcgjlfkjcgpocaaDoor
